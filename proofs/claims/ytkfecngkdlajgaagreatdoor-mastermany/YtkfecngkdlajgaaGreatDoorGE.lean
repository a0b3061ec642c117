/-
  The reader of package header: its state in memory, and what its methods do with it.
  What open of package header answers: a reader of the payload behind its mark, or one that knows that something is wrong.
  What ParseCount and ParseMapping of package header answer.
  What ParseMapping of package header answers.
  Images as lists: what was made is parsed as it was, never as the other kind; with a byte turned as nothing.
  The chapter's examples: the laws' alive answers true, and turns nothing that was there.
-/
import Derived.Test.YtkfecngkdlajgaaGreatDoorGD
import Derived.Test.YtkfecngkdlajgaaGreatDoorGB
import Derived.Laws.ResultCell
namespace Go.Proofs.YtkfecngkdlajgaaGreatDoor.Hd
open Go.RowKit Go.Extern.Stop Go.Stop Go.Extern M
variable {L : Nat}

/-- The package's variable holds an error. -/
def Glb (w : World) : Prop := ∃ x, w.cell? ⟨0, 0, none⟩ = some (.iface 333 x)
theorem Glb.later {w w' : World} (h : Glb w) (hb : Below w.heap.size w w') : Glb w' := by
  obtain ⟨x, h⟩ := h
  exact ⟨x, by rw [hb.cell (p := ⟨0, 0, none⟩) (World.block_lt_of_cell? w _ h)]; exact h⟩
theorem Glb.lt {w : World} (h : Glb w) : 0 < w.heap.size := by
  obtain ⟨x, h⟩ := h
  exact World.block_lt_of_cell? w _ h
theorem Glb.kept {S : Nat → Prop} {w w' : World} (h : Glb w) (hk : Kept S w w') (h0 : ¬ S 0) : Glb w' := by
  obtain ⟨x, h⟩ := h
  exact ⟨x, by rw [World.cell?_of_block (a := ⟨0, 0, none⟩) (hk.block 0 (World.block_lt_of_cell? w _ h) h0)]; exact h⟩

/-- The reader at B: what is left, or that something was wrong. -/
structure Rd (L : Nat) (w : World) (B : Nat) (st : Option (List Nat)) : Prop where
  glb : Glb w
  ne : B ≠ 0
  row : ∃ a n c e, Row w B [.slice a n c, e] 215 ∧ n ≤ c ∧ c ≤ maxLen ∧ (∀ l, st = some l → e = .nilIface ∧ n = l.length ∧ BRow w a l ∧ (∀ x ∈ l, x < 256) ∧ (l = [] ∨ ∀ b off, a = some ⟨b, off, none⟩ → b ≠ B ∧ b < L)) ∧ (st = none → ∃ t x, e = .iface t x)
theorem Rd.lt {w : World} {B : Nat} {st : Option (List Nat)} (h : Rd L w B st) : B < w.heap.size := by
  obtain ⟨a, n, c, e, hr, _⟩ := h.row
  exact hr.lt
theorem Rd.later {w w' : World} {B : Nat} {st : Option (List Nat)} (h : Rd L w B st) (hb : Below w.heap.size w w') : Rd L w' B st := by
  obtain ⟨a, n, c, e, hr, h1, h2, h3, h4⟩ := h.row
  refine ⟨h.glb.later hb, h.ne, a, n, c, e, hr.later hb, h1, h2, fun l hl => ?_, h4⟩
  obtain ⟨k1, k2, k3, k4⟩ := h3 l hl
  exact ⟨k1, k2, k3.later hb, k4⟩
/-- Something is wrong. -/
theorem Rd.bad {w : World} {B : Nat} (h : Rd L w B none) : ∃ a n c t x, Row w B [.slice a n c, .iface t x] 215 ∧ n ≤ c ∧ c ≤ maxLen := by
  obtain ⟨a, n, c, e, hr, h1, h2, _, h4⟩ := h.row
  obtain ⟨t, x, rfl⟩ := h4 rfl
  exact ⟨a, n, c, t, x, hr, h1, h2⟩
theorem Rd.good {w : World} {B : Nat} {l : List Nat} (h : Rd L w B (some l)) : ∃ a c, Row w B [.slice a l.length c, .nilIface] 215 ∧ l.length ≤ c ∧ c ≤ maxLen ∧ BRow w a l ∧ (∀ x ∈ l, x < 256) ∧ (l = [] ∨ ∀ b off, a = some ⟨b, off, none⟩ → b ≠ B ∧ b < L) := by
  obtain ⟨a, n, c, e, hr, h1, h2, h3, _⟩ := h.row
  obtain ⟨rfl, rfl, k3, k4⟩ := h3 l rfl
  exact ⟨a, c, hr, h1, h2, k3, k4⟩

theorem Rd.tight {w : World} {B : Nat} {st : Option (List Nat)} (h : Rd L w B st) : Rd w.heap.size w B st := by
  obtain ⟨a, n, c, e, hr, h1, h2, h3, h4⟩ := h.row
  refine ⟨h.glb, h.ne, a, n, c, e, hr, h1, h2, fun l hl => ?_, h4⟩
  obtain ⟨k1, k2, k3, k4, k5⟩ := h3 l hl
  refine ⟨k1, k2, k3, k4, ?_⟩
  rcases k3 with k3 | ⟨b', off', ha, hc⟩
  · exact .inl k3
  · by_cases hl0 : l = []
    · exact .inl hl0
    · refine .inr fun b off e => ⟨?_, ?_⟩
      · rcases k5 with k5 | k5
        · exact absurd k5 hl0
        · exact (k5 b off e).1
      · rw [ha] at e
        cases e
        exact World.block_lt_of_cell? w _ (hc 0 (List.length_pos_iff.2 hl0))
/-- What stays is behind the reader alone. -/
theorem brow_kept {S : Nat → Prop} {w w' : World} {a : Option Addr} {l : List Nat} (h : BRow w a l) (hk : Kept S w w') (hs : ∀ b off, a = some ⟨b, off, none⟩ → ¬ S b) : BRow w' a l := by
  rcases h with h | ⟨b, off, ha, hc⟩
  · exact .inl h
  · refine .inr ⟨b, off, ha, fun i hi => ?_⟩
    have h1 := hc i hi
    rw [World.cell?_of_block (a := ⟨b, off + i, none⟩) (hk.block b (World.block_lt_of_cell? w _ h1) (hs b off ha))]
    exact h1

/-- The reader's new state; all else is as it was. -/
structure RPost (L : Nat) (w : World) (B : Nat) (st : Option (List Nat)) (w' : World) : Prop where
  rd : Rd L w' B st
  kept : Kept (fun k => k = B) w w'
theorem RPost.same {w : World} {B : Nat} {st : Option (List Nat)} (h : Rd L w B st) : RPost L w B st w := ⟨h, .refl _ _⟩

def noteS (st : Option (List Nat)) (err : Bool) : Option (List Nat) := if err then none else st

set_option maxRecDepth 10000 in
set_option maxHeartbeats 4000000 in
theorem note_bad (B : Nat) (what : ByteArray) (v : Value) (hv : v = .nilIface ∨ ∃ t x, v = .iface t x) (w : World) (h : Rd L w B none) :
    Calls Tryz.prog 128 #[.pointer (some ⟨B, 0, none⟩), .string what, v] w fun e w' => e = .returned (.tuple #[]) ∧ w = w' := by
  obtain ⟨a, n, c, t, x, hr, _⟩ := h.bad
  have c1 : w.cell? ⟨B, 1, none⟩ = some (.iface t x) := hr.cell (i := 1) rfl
  clear h hr
  rcases hv with rfl | ⟨t2, x2, rfl⟩
  · go_enter Tryz.func128, Tryz.ntmps128
    go_wp2
    go_end0
    exact ⟨rfl, rfl⟩
  · go_enter Tryz.func128, Tryz.ntmps128
    go_wp2
    go_end0
    exact ⟨rfl, rfl⟩
set_option maxRecDepth 10000 in
set_option maxHeartbeats 4000000 in
theorem note_nil (B : Nat) (what : ByteArray) (l : List Nat) (w : World) (h : Rd L w B (some l)) :
    Calls Tryz.prog 128 #[.pointer (some ⟨B, 0, none⟩), .string what, .nilIface] w fun e w' => e = .returned (.tuple #[]) ∧ w = w' := by
  obtain ⟨a, c, hr, _⟩ := h.good
  have c1 : w.cell? ⟨B, 1, none⟩ = some .nilIface := hr.cell (i := 1) rfl
  clear h hr
  go_enter Tryz.func128, Tryz.ntmps128
  go_wp2
  go_end0
  exact ⟨rfl, rfl⟩
theorem rd_noted {w : World} {B : Nat} {l : List Nat} (h : Rd L w B (some l)) (o : Obj) (t : TypeId) (x : Value) : RPost L w B none ((w.setCell ⟨B, 1, none⟩ (.iface t x)).alloc o) := by
  obtain ⟨a, c, hr, h1, h2, h3, h4⟩ := h.good
  have hk : Kept (fun k => k = B) w ((w.setCell ⟨B, 1, none⟩ (.iface t x)).alloc o) := ((Kept.refl (fun k => k = B) w).setCell (p := ⟨B, 1, none⟩) rfl _).alloc o
  refine ⟨⟨h.glb.kept hk (fun e => h.ne e.symm), h.ne, a, l.length, c, _, ?_, h1, h2, (fun l hl => by cases hl), fun _ => ⟨t, x, rfl⟩⟩, hk⟩
  have := (hr.set (i := 1) (.iface t x) (by simp)).alloc o
  exact this
set_option maxRecDepth 10000 in
set_option maxHeartbeats 4000000 in
theorem note_err (B : Nat) (what : ByteArray) (l : List Nat) (t : TypeId) (x : Value) (w : World) (h : Rd L w B (some l)) :
    Calls Tryz.prog 128 #[.pointer (some ⟨B, 0, none⟩), .string what, .iface t x] w fun e w' => e = .returned (.tuple #[]) ∧ RPost L w B none w' := by
  obtain ⟨a, c, hr, _⟩ := h.good
  have c1 : w.cell? ⟨B, 1, none⟩ = some .nilIface := hr.cell (i := 1) rfl
  have f1 := hr.frozen 1
  have hl := hr.lt
  have H : Hid (Rd L w B (some l)) := h
  clear h hr
  go_enter Tryz.func128, Tryz.ntmps128
  go_wp2
  go_end0
  exact ⟨rfl, rd_noted H.out _ _ _⟩
/-- note, whatever the state and the error. -/
theorem note_any (B : Nat) (what : ByteArray) (v : Value) (hv : v = .nilIface ∨ ∃ t x, v = .iface t x) (st : Option (List Nat)) (w : World) (h : Rd L w B st) :
    Calls Tryz.prog 128 #[.pointer (some ⟨B, 0, none⟩), .string what, v] w fun e w' => e = .returned (.tuple #[]) ∧ RPost L w B (noteS st (nn v)) w' := by
  cases st with
  | none =>
    refine (note_bad B what v hv w h).mono ?_
    rintro e w' ⟨rfl, rfl⟩
    refine ⟨rfl, ?_⟩
    have : noteS none (nn v) = none := by unfold noteS; split <;> rfl
    rw [this]
    exact .same h
  | some l =>
    rcases hv with rfl | ⟨t, x, rfl⟩
    · refine (note_nil B what l w h).mono ?_
      rintro e w' ⟨rfl, rfl⟩
      exact ⟨rfl, .same h⟩
    · exact note_err B what l t x w h

/-- What number answers, and what it leaves. -/
def numV (k : Nat) : Option (List Nat) → Nat
  | none => 0
  | some l => if l.length < k then 0 else getL (l.take k)
def numS (k : Nat) : Option (List Nat) → Option (List Nat)
  | none => none
  | some l => if l.length < k then none else some (l.drop k)
set_option maxRecDepth 10000 in
set_option maxHeartbeats 4000000 in
theorem number_bad (B k : Nat) (w : World) (h : Rd L w B none) :
    Calls Tryz.prog 126 #[.pointer (some ⟨B, 0, none⟩), .int .i64 k] w fun e w' => e = .returned (.int .u64 0) ∧ w = w' := by
  obtain ⟨a, n, c, t, x, hr, _⟩ := h.bad
  have c1 : w.cell? ⟨B, 1, none⟩ = some (.iface t x) := hr.cell (i := 1) rfl
  clear h hr
  go_enter Tryz.func126, Tryz.ntmps126
  go_wp2
  go_ret
  exact ⟨rfl, rfl⟩
set_option maxRecDepth 10000 in
set_option maxHeartbeats 4000000 in
theorem number_short (B k : Nat) (l : List Nat) (w : World) (h : Rd L w B (some l)) (hk : l.length < k) :
    Calls Tryz.prog 126 #[.pointer (some ⟨B, 0, none⟩), .int .i64 k] w fun e w' => e = .returned (.int .u64 0) ∧ RPost L w B none w' := by
  obtain ⟨a, c, hr, _⟩ := h.good
  obtain ⟨x, g0⟩ := h.glb
  have c0 : w.cell? ⟨B, 0, none⟩ = some (.slice a l.length c) := hr.cell (i := 0) rfl
  have c1 : w.cell? ⟨B, 1, none⟩ = some .nilIface := hr.cell (i := 1) rfl
  have H : Hid (Rd L w B (some l)) := h
  obtain ⟨n, hn⟩ : ∃ n, n = l.length := ⟨_, rfl⟩
  rw [← hn] at c0 hk
  clear h hr hn
  go_enter Tryz.func126, Tryz.ntmps126
  go_wp2_with (go_at_call 128; refine (note_err _ _ l _ _ _ H.out).mono ?_; rintro e w1 ⟨rfl, hp⟩; have HP : Hid (RPost _ _ _ _ _) := hp; clear hp)
  go_ret
  exact ⟨rfl, HP.out⟩
theorem rd_took {w : World} {B k c' : Nat} {l : List Nat} {a' : Option Addr} (h : Rd L w B (some l)) (hc1 : l.length - k ≤ c') (hc2 : c' ≤ maxLen) (hr' : BRow w a' (l.drop k)) (hs : l.drop k = [] ∨ ∀ b off, a' = some ⟨b, off, none⟩ → b ≠ B ∧ b < L) :
    RPost L w B (some (l.drop k)) (w.setCell ⟨B, 0, none⟩ (.slice a' (l.length - k) c')) := by
  obtain ⟨a, c, hr, h1, h2, h3, h4, _⟩ := h.good
  have hk : Kept (fun k => k = B) w (w.setCell ⟨B, 0, none⟩ (.slice a' (l.length - k) c')) := (Kept.refl (fun k => k = B) w).setCell (p := ⟨B, 0, none⟩) rfl _
  refine ⟨⟨h.glb.kept hk (fun e => h.ne e.symm), h.ne, a', l.length - k, c', .nilIface, ?_, hc1, hc2, ?_, (fun h => by cases h)⟩, hk⟩
  · have := hr.set (i := 0) (.slice a' (l.length - k) c') (by simp)
    exact this
  · intro l2 hl2
    cases hl2
    exact ⟨rfl, by simp, hs.elim .inl (fun hs => brow_kept hr' hk (fun b off e => (hs b off e).1)), fun x hx => h4 x (List.mem_of_mem_drop hx), hs⟩
set_option maxRecDepth 10000 in
set_option maxHeartbeats 4000000 in
theorem number_go (B k : Nat) (l : List Nat) (w : World) (h : Rd L w B (some l)) (hk : k ≤ l.length) (h1 : 1 ≤ k) (h8 : k ≤ 8) :
    Calls Tryz.prog 126 #[.pointer (some ⟨B, 0, none⟩), .int .i64 k] w fun e w' => e = .returned (.int .u64 (getL (l.take k) : Nat)) ∧ RPost L w B (some (l.drop k)) w' := by
  obtain ⟨a, c, hr, hnc, hcm, hbr, hlt, hap⟩ := h.good
  obtain ⟨b, off, rfl, hcs⟩ : ∃ b off, a = some ⟨b, off, none⟩ ∧ ∀ i, i < l.length → w.cell? ⟨b, off + i, none⟩ = some (.int .u8 ((l.getD i 0 : Nat) : Int)) := by
    rcases hbr with h | h
    · rw [h] at hk; simp at hk; omega
    · exact h
  have c0 : w.cell? ⟨B, 0, none⟩ = some (.slice (some ⟨b, off, none⟩) l.length c) := hr.cell (i := 0) rfl
  have c1 : w.cell? ⟨B, 1, none⟩ = some .nilIface := hr.cell (i := 1) rfl
  have f0 := hr.frozen 0
  have H : Hid (Rd L w B (some l)) := h
  have hg : Calls Tryz.prog 101 #[.slice (some ⟨b, off, none⟩) k c] w fun e w' => e = .returned (.int .u64 (getL (l.take k) : Nat)) ∧ w = w' :=
    get_at _ _ (l.take k) w k _ (by simp; omega) (by simp [List.take_take]; congr 1; rw [Nat.min_eq_right h8]) (by simp [maxLen]; omega) (fun x hx => hlt x (List.mem_of_mem_take hx)) (by have := hbr.sub (i := 0) (j := k); simpa using this)
  have F1 : Hid (RPost L w B (some (l.drop k)) (w.setCell ⟨B, 0, none⟩ (.slice (some ⟨b, off + k, none⟩) (l.length - k) (c - k)))) :=
    rd_took h (by omega) (by omega) (by have := hbr.sub (i := k) (j := l.length - k); rwa [List.take_of_length_le (by simp)] at this) (.inr fun b' off' e => by cases e; rcases hap with h0 | h0; (rw [h0] at hk; simp at hk; omega); exact h0 _ _ rfl)
  have F2 : Hid (c = k → RPost L w B (some (l.drop k)) (w.setCell ⟨B, 0, none⟩ (.slice (some ⟨b, off, none⟩) (l.length - k) 0))) := fun e =>
    rd_took h (by omega) (by unfold maxLen; omega) (.inl (List.drop_eq_nil_of_le (by omega))) (.inl (List.drop_eq_nil_of_le (by omega)))
  obtain ⟨n, hn⟩ : ∃ n, n = l.length := ⟨_, rfl⟩
  obtain ⟨z, hz⟩ : ∃ z, z = getL (l.take k) := ⟨_, rfl⟩
  rw [← hn] at c0 hk hnc F1 F2
  rw [← hz] at hg ⊢
  unfold maxLen at hcm
  clear h hr hbr hcs hlt hn hz hap
  go_enter Tryz.func126, Tryz.ntmps126
  go_wp2_with (go_at_call 101; refine hg.mono ?_; rintro e w1 ⟨rfl, rfl⟩)
  · go_ret
    have e : c = k := by assumption
    exact ⟨rfl, F2.out e⟩
  · go_ret
    exact ⟨rfl, F1.out⟩
theorem number_any (B k : Nat) (st : Option (List Nat)) (w : World) (h : Rd L w B st) (h1 : 1 ≤ k) (h8 : k ≤ 8) :
    Calls Tryz.prog 126 #[.pointer (some ⟨B, 0, none⟩), .int .i64 k] w fun e w' => e = .returned (.int .u64 (numV k st : Nat)) ∧ RPost L w B (numS k st) w' := by
  cases st with
  | none =>
    refine (number_bad B k w h).mono ?_
    rintro e w' ⟨rfl, rfl⟩
    exact ⟨rfl, .same h⟩
  | some l =>
    by_cases hk : l.length < k
    · refine (number_short B k l w h hk).mono ?_
      rintro e w' ⟨rfl, hp⟩
      simp only [numV, numS, if_pos hk]
      exact ⟨rfl, hp⟩
    · have := number_go B k l w h (by omega) h1 h8
      simp only [numV, numS, if_neg hk]
      exact this

/-- What end leaves. -/
def endS : Option (List Nat) → Option (List Nat)
  | some [] => some []
  | _ => none
set_option maxRecDepth 10000 in
set_option maxHeartbeats 4000000 in
theorem end_more (B : Nat) (w : World) (n : Nat) (a : Option Addr) (c : Nat) (st : Option (List Nat)) (h : Rd L w B st) (c0 : w.cell? ⟨B, 0, none⟩ = some (.slice a n c)) (hn : 0 < n) :
    Calls Tryz.prog 127 #[.pointer (some ⟨B, 0, none⟩)] w fun e w' => e = .returned (.tuple #[]) ∧ RPost L w B none w' := by
  obtain ⟨x, g0⟩ := h.glb
  have cN := fun what => note_any B what (.iface 333 x) (.inr ⟨_, _, rfl⟩) st w h
  simp only [nn, noteS, if_true] at cN
  clear h
  go_enter Tryz.func127, Tryz.ntmps127
  go_wp2_with (go_at_call 128; refine (cN _).mono ?_; rintro e w1 ⟨rfl, hp⟩; have HP : Hid (RPost _ _ _ _ _) := hp; clear hp)
  go_end0
  exact ⟨rfl, HP.out⟩
set_option maxRecDepth 10000 in
set_option maxHeartbeats 4000000 in
theorem end_none (B : Nat) (w : World) (a : Option Addr) (c : Nat) (c0 : w.cell? ⟨B, 0, none⟩ = some (.slice a 0 c)) :
    Calls Tryz.prog 127 #[.pointer (some ⟨B, 0, none⟩)] w fun e w' => e = .returned (.tuple #[]) ∧ w = w' := by
  go_enter Tryz.func127, Tryz.ntmps127
  go_wp2
  go_end0
  exact ⟨rfl, rfl⟩
theorem end_any (B : Nat) (st : Option (List Nat)) (w : World) (h : Rd L w B st) :
    Calls Tryz.prog 127 #[.pointer (some ⟨B, 0, none⟩)] w fun e w' => e = .returned (.tuple #[]) ∧ RPost L w B (endS st) w' := by
  obtain ⟨a, n, c, e, hr, h1, h2, h3, h4⟩ := h.row
  have c0 : w.cell? ⟨B, 0, none⟩ = some (.slice a n c) := hr.cell (i := 0) rfl
  by_cases hn : 0 < n
  · have hs : endS st = none := by
      rcases st with _ | l
      · rfl
      · obtain ⟨_, hl, _⟩ := h3 l rfl
        cases l with
        | nil => simp at hl; omega
        | cons => rfl
    rw [hs]
    exact end_more B w n a c st h c0 hn
  · have hn0 : n = 0 := by omega
    subst hn0
    have hs : endS st = st := by
      rcases st with _ | l
      · rfl
      · obtain ⟨_, hl, _⟩ := h3 l rfl
        have : l = [] := List.eq_nil_of_length_eq_zero hl.symm
        subst this
        rfl
    rw [hs]
    refine (end_none B w a c c0).mono ?_
    rintro e w' ⟨rfl, rfl⟩
    exact ⟨rfl, .same h⟩
end Go.Proofs.YtkfecngkdlajgaaGreatDoor.Hd
namespace Go.Proofs.YtkfecngkdlajgaaGreatDoor.Hd
open Go.RowKit Go.Extern.Stop Go.Stop Go.Extern M
variable {L : Nat}

/-- What mark leaves. -/
def markS (m : Nat) (st : Option (List Nat)) : Option (List Nat) := if numV 1 st = m then numS 1 st else none
theorem RPost.trans {w w1 w2 : World} {B : Nat} {s1 s2 : Option (List Nat)} (h : RPost L w B s1 w1) (h2 : RPost L w1 B s2 w2) : RPost L w B s2 w2 := ⟨h2.rd, h.kept.trans h2.kept⟩
set_option maxRecDepth 10000 in
set_option maxHeartbeats 4000000 in
theorem mark_any (B m : Nat) (hm : m < 256) (st : Option (List Nat)) (w : World) (h : Rd L w B st) :
    Calls Tryz.prog 166 #[.pointer (some ⟨B, 0, none⟩), .int .u8 m] w fun e w' => e = .returned (.tuple #[]) ∧ RPost L w B (markS m st) w' := by
  have cN := number_any B 1 st w h (by decide) (by decide)
  obtain ⟨z, hz⟩ : ∃ z, z = numV 1 st := ⟨_, rfl⟩
  rw [← hz] at cN
  have HZ : Hid (z = numV 1 st) := hz
  clear hz h
  by_cases hzm : z = m
  · have hne : ((z : Int) != (m : Int)) = false := by simp; omega
    have HM : Hid (z = m) := hzm
    clear hzm
    go_enter Tryz.func166, Tryz.ntmps166
    go_wp2_with (go_at_call 126; refine cN.mono ?_; rintro e w1 ⟨rfl, hp⟩; have HP : Hid (RPost _ _ _ _ _) := hp; clear hp cN)
    go_end0
    refine ⟨rfl, ?_⟩
    unfold markS
    rw [if_pos (by rw [← HZ.out]; exact HM.out)]
    exact HP.out
  · have hne : ((z : Int) != (m : Int)) = true := by simp; omega
    have HM : Hid (¬ z = m) := hzm
    clear hzm
    go_enter Tryz.func166, Tryz.ntmps166
    go_wp2_with (first
      | (go_at_call 126; refine cN.mono ?_; rintro e w1 ⟨rfl, hp⟩; obtain ⟨x, g0⟩ := hp.rd.glb; have HP : Hid (RPost _ _ _ _ _) := hp; clear hp cN)
      | (go_at_call 128; refine (note_any _ _ _ (.inr ⟨_, _, rfl⟩) _ _ HP.out.rd).mono ?_; rintro e w2 ⟨rfl, hp2⟩; have HP2 : Hid (RPost _ _ _ _ _) := hp2; clear hp2))
    go_end0
    refine ⟨rfl, ?_⟩
    unfold markS
    rw [if_neg (by rw [← HZ.out]; exact HM.out)]
    exact HP.out.trans HP2.out

/-- The reader that open made, as it stands. -/
structure Opn (L : Nat) (w wr : World) (st : Option (List Nat)) : Prop where
  rd : Rd L wr w.heap.size st
  bel : Below w.heap.size w wr
theorem Opn.step {w wr w' : World} {s1 s2 : Option (List Nat)} (h : Opn L w wr s1) (hp : RPost L wr w.heap.size s2 w') : Opn L w w' s2 :=
  ⟨hp.rd, h.bel.trans (hp.kept.below h.bel.size (fun _ e => Nat.le_of_eq e.symm))⟩
theorem Opn.later {w wr w' : World} {s1 : Option (List Nat)} (h : Opn L w wr s1) (hb : Below wr.heap.size wr w') : Opn L w w' s1 := ⟨h.rd.later hb, Below.after h.bel hb⟩
theorem Opn.tight {w wr : World} {s1 : Option (List Nat)} (h : Opn L w wr s1) : Opn wr.heap.size w wr s1 := ⟨h.rd.tight, h.bel⟩
theorem opn_start {w : World} (hg : Glb w) : Opn L w (w.alloc (.cells #[.slice none 0 0, .nilIface] 215)) (some []) := by
  refine ⟨⟨hg.later (below_new _ _), by have := hg.lt; omega, none, 0, 0, .nilIface, Row.new w [_, _] _, Nat.le_refl _, by decide, ?_, fun h => by cases h⟩, below_new _ _⟩
  intro l hl
  cases hl
  exact ⟨rfl, rfl, .inl rfl, by simp, .inl rfl⟩
/-- A reader at a new place. -/
def OPost (w : World) (st : Option (List Nat)) (e : Ending) (w' : World) : Prop := e = .returned (.pointer (some ⟨w.heap.size, 0, none⟩)) ∧ Opn w'.heap.size w w' st

set_option maxRecDepth 10000 in
set_option maxHeartbeats 4000000 in
theorem open_page (a : Option Addr) (n cap m : Nat) (w : World) (hg : Glb w) (hn : ¬ pageOk n) :
    Calls Tryz.prog 125 #[.slice a n cap, .int .u8 m] w (OPost w none) := by
  have HO : Hid (Opn (w.heap.size + 2) w (w.alloc (.cells #[.slice none 0 0, .nilIface] 215)) (some [])) := opn_start hg
  have HN : Hid (¬ pageOk n) := hn
  clear hn hg
  go_enter Tryz.func125, Tryz.ntmps125
  go_wp2_with (first
    | (go_at_call 164; refine (page_bad _ _ HN.out).mono ?_; rintro e w1 ⟨b1, rfl, _, hb1⟩; have HO1 : Hid (Opn _ _ _ _) := HO.out.later hb1; clear hb1)
    | (go_at_call 128; refine (note_any _ _ _ (.inr ⟨_, _, rfl⟩) _ _ HO1.out.rd).mono ?_; rintro e w2 ⟨rfl, hp⟩; have HO2 : Hid (Opn _ _ _ none) := HO1.out.step hp; clear hp; obtain ⟨xa, xn, xc, xt, xx, xr, _⟩ := HO2.out.rd.bad; have c1 : w2.cell? ⟨w.heap.size, 1, none⟩ = some (.iface xt xx) := xr.cell (i := 1) rfl; clear xr))
  go_ret
  exact ⟨rfl, HO2.out.tight⟩

theorem unno_at {w wr : World} {a : Option Addr} {n cap : Nat} {l : List Nat} (hn : n = l.length) (hc : n ≤ cap) (hm : cap ≤ maxLen) (hl : ∀ x ∈ l, x < 256) (hr : BRow w a l) (hb : Below w.heap.size w wr) (hf : ¬ isFrame l) :
    Calls Tryz.prog 165 #[.slice a n cap] wr fun e w' => e = .returned (.tuple #[.slice none 0 0, .int .i64 0, .bool false]) ∧ Below wr.heap.size wr w' := by
  subst hn
  exact unframe_not a cap l wr hc (by unfold maxLen at hm; omega) hl (hr.later hb) hf
theorem unis_at {w wr : World} {a : Option Addr} {n cap z : Nat} {l p : List Nat} (hn : n = l.length) (hc : n ≤ cap) (hm : cap ≤ maxLen) (hl : ∀ x ∈ l, x < 256) (hr : BRow w a l) (hb : Below w.heap.size w wr) (hf : isFrame l) (hz : z = sizeL l) (hp : p = bodyL l) :
    Calls Tryz.prog 165 #[.slice a n cap] wr fun e w' => e = .returned (.tuple #[.slice (some ⟨wr.heap.size, 0, none⟩) z z, .int .i64 (6 + (z : Int)), .bool true]) ∧ BRow w' (some ⟨wr.heap.size, 0, none⟩) p ∧ Below wr.heap.size wr w' := by
  subst hn hz hp
  refine (unframe_is a cap l wr hc (by unfold maxLen at hm; omega) hl (hr.later hb) hf).mono ?_
  rintro e w' ⟨rfl, ho⟩
  exact ⟨rfl, own_at ho, ho.2⟩

set_option maxRecDepth 10000 in
set_option maxHeartbeats 4000000 in
theorem open_no (a : Option Addr) (n cap m : Nat) (l : List Nat) (w : World) (hg : Glb w) (hn : pageOk n) (hl : n = l.length) (hc : n ≤ cap) (hm : cap ≤ maxLen) (h256 : ∀ x ∈ l, x < 256) (hr : BRow w a l) (hf : ¬ isFrame l) :
    Calls Tryz.prog 125 #[.slice a n cap, .int .u8 m] w (OPost w none) := by
  have HO : Hid (Opn (w.heap.size + 2) w (w.alloc (.cells #[.slice none 0 0, .nilIface] 215)) (some [])) := opn_start hg
  have HN : Hid (pageOk n) := hn
  have cU := fun wr hb => unno_at (wr := wr) hl hc hm h256 hr hb hf
  clear hn hg hl hc hm h256 hr hf
  have M1 : Hid True := trivial
  go_enter Tryz.func125, Tryz.ntmps125
  go_wp2_with (first
    | (go_at_call 164; refine (page_ok _ _ HN.out).mono ?_; rintro e w' ⟨rfl, rfl⟩)
    | (go_at_call 128; clear M1; refine (note_nil _ _ [] _ HO.out.rd).mono ?_; rintro e w' ⟨rfl, rfl⟩)
    | (go_at_call 165; refine (cU _ HO.out.bel).mono ?_; rintro e w1 ⟨rfl, hb1⟩; have HO1 : Hid (Opn _ _ _ _) := HO.out.later hb1; clear hb1; obtain ⟨x, g0⟩ := HO1.out.rd.glb)
    | (go_at_call 128; refine (note_any _ _ _ (.inr ⟨_, _, rfl⟩) _ _ HO1.out.rd).mono ?_; rintro e w2 ⟨rfl, hp⟩; have HO2 : Hid (Opn _ _ _ none) := HO1.out.step hp; clear hp))
  go_ret
  exact ⟨rfl, HO2.out.tight⟩
theorem blank_at (a : Option Addr) (cap n : Nat) (l : List Nat) (w : World) (R : Bool) (hn : n = l.length) (hR : R = l.all (· == 255)) (hl : l.length ≤ maxLen) (hr : BRow w a l) :
    Calls Tryz.prog 141 #[.slice a n cap] w fun e w' => e = .returned (.bool R) ∧ w = w' := by
  subst hn hR
  exact blank_any a cap l w hl hr
/-- The bytes behind the frame. -/
def restL (l : List Nat) : List Nat := l.drop (6 + sizeL l)
theorem opn_rest {w wr : World} {g : Nat} {p : List Nat} (h : Opn L w wr (some [])) (hr : BRow wr (some ⟨g, 0, none⟩) p) (hp : ∀ x ∈ p, x < 256) (hg : w.heap.size < g) (hgL : g < L) (hm : p.length ≤ maxLen) :
    Opn L w (wr.setCell ⟨w.heap.size, 0, none⟩ (.slice (some ⟨g, 0, none⟩) p.length p.length)) (some p) := by
  obtain ⟨a, c, hrow, _⟩ := h.rd.good
  have hk : Kept (fun k => k = w.heap.size) wr (wr.setCell ⟨w.heap.size, 0, none⟩ (.slice (some ⟨g, 0, none⟩) p.length p.length)) := (Kept.refl (fun k => k = w.heap.size) wr).setCell (p := ⟨w.heap.size, 0, none⟩) rfl _
  refine h.step ⟨⟨h.rd.glb.kept hk (fun e => h.rd.ne e.symm), h.rd.ne, some ⟨g, 0, none⟩, p.length, p.length, .nilIface, ?_, Nat.le_refl _, hm, ?_, (fun h => by cases h)⟩, hk⟩
  · exact hrow.set (i := 0) (.slice (some ⟨g, 0, none⟩) p.length p.length) (by simp)
  · intro l2 hl2
    cases hl2
    exact ⟨rfl, rfl, brow_kept hr hk (fun b off e => by cases e; omega), hp, .inr fun b off e => by cases e; omega⟩

set_option maxRecDepth 10000 in
set_option maxHeartbeats 1000000 in
theorem open_go (b off n cap m : Nat) (hm256 : m < 256) (l : List Nat) (w : World) (hg : Glb w) (hn : pageOk n) (hl : n = l.length) (hc : n ≤ cap) (hm : cap ≤ maxLen) (h256 : ∀ x ∈ l, x < 256) (hr : BRow w (some ⟨b, off, none⟩) l) (hf : isFrame l) (hB : (restL l).all (· == 255) = true) :
    Calls Tryz.prog 125 #[.slice (some ⟨b, off, none⟩) n cap, .int .u8 m] w (OPost w (markS m (some (bodyL l)))) := by
  have HO : Hid (Opn (w.heap.size + 2) w (w.alloc (.cells #[.slice none 0 0, .nilIface] 215)) (some [])) := opn_start hg
  have HN : Hid (pageOk n) := hn
  obtain ⟨z, hz⟩ : ∃ z, z = sizeL l := ⟨_, rfl⟩
  obtain ⟨p, hp⟩ : ∃ p, p = bodyL l := ⟨_, rfl⟩
  have cU := fun wr hb => unis_at (wr := wr) hl hc hm h256 hr hb hf hz hp
  have hzn : 6 + z ≤ n := by have h6 := hf.1; have h7 := hf.2.2.2.1; omega
  have HZP : Hid (z = p.length) := by show _ = _; rw [hz, hp]; have := hf.2.2.2.1; simp [bodyL]; omega
  have HPL : Hid (∀ x ∈ p, x < 256) := by rw [hp]; exact lt_of_sub h256 6 _
  have HPM : Hid (p.length ≤ maxLen) := by show _ ≤ _; rw [← HZP.out]; unfold maxLen at hm ⊢; omega
  have cB1 : Hid (∀ wr c', Below w.heap.size w wr → Calls Tryz.prog 141 #[.slice (some ⟨b, off + (6 + z), none⟩) (n - (6 + z)) c'] wr fun e w' => e = .returned (.bool true) ∧ wr = w') := fun wr c' hb =>
    blank_at _ c' _ (restL l) wr true (by simp [restL, hz, hl]) hB.symm (by simp [restL]; unfold maxLen at hm ⊢; omega) (by have := (hr.later hb).sub (i := 6 + z) (j := l.length); rw [List.take_of_length_le (by simp)] at this; unfold restL; rw [← hz]; exact this)
  have cB2 : Hid (cap = 6 + z → ∀ wr ao c', Below w.heap.size w wr → Calls Tryz.prog 141 #[.slice ao (n - (6 + z)) c'] wr fun e w' => e = .returned (.bool true) ∧ wr = w') := fun e wr ao c' _ =>
    blank_at _ c' _ [] wr true (by simp; omega) rfl (by simp) (.inl rfl)
  rw [← hp]
  unfold maxLen at hm
  clear hn hg hl h256 hr hf hz hp hB
  have HM : Hid (m < 256) := hm256
  have M1 : Hid True := trivial
  by_cases hcap : cap = 6 + z
  · subst hcap
    have hn2 : n = 6 + z := by omega
    subst hn2
    have cB := cB2.out rfl
    rw [Nat.sub_self] at cB
    clear cB1 cB2
    go_enter Tryz.func125, Tryz.ntmps125
    go_wp2_with (first
      | (go_at_call 164; refine (page_ok _ _ HN.out).mono ?_; rintro e w' ⟨rfl, rfl⟩)
      | (go_at_call 128; clear M1; refine (note_nil _ _ [] _ HO.out.rd).mono ?_; rintro e w' ⟨rfl, rfl⟩)
      | (go_at_call 165; refine (cU _ HO.out.bel).mono ?_; rintro e w1 ⟨rfl, hr1, hb1⟩; have HO1 : Hid (Opn _ _ _ _) := HO.out.later hb1; obtain ⟨ya, yc, yr, _⟩ := HO1.out.rd.good; have y0 : w1.cell? ⟨w.heap.size, 0, none⟩ = some (.slice ya 0 yc) := yr.cell (i := 0) rfl; have y1 : w1.cell? ⟨w.heap.size, 1, none⟩ = some .nilIface := yr.cell (i := 1) rfl; have y2 := yr.frozen 0; have HO2 : Hid (Opn (w.heap.size + 2) w (w1.setCell ⟨w.heap.size, 0, none⟩ (.slice (some ⟨(w.alloc (.cells #[.slice none 0 0, .nilIface] 215)).heap.size, 0, none⟩) p.length p.length)) (some p)) := opn_rest HO1.out hr1 HPL.out (by simp) (by simp) HPM.out; rw [← HZP.out] at HO2; simp only [size_new] at HO2; clear hb1 hr1 yr)
      | (go_at_call 141; refine (cB _ _ _ HO1.out.bel).mono ?_; rintro e w' ⟨rfl, rfl⟩)
      | (go_at_call 166; refine (mark_any _ m HM.out (some p) _ HO2.out.rd).mono ?_; rintro e w2 ⟨rfl, hp2⟩; have HO3 : Hid (Opn _ _ _ _) := HO2.out.step hp2; clear hp2))
    go_ret
    exact ⟨rfl, HO3.out.tight⟩
  · have cB := cB1.out
    clear cB1 cB2
    go_enter Tryz.func125, Tryz.ntmps125
    go_wp2_with (first
      | (go_at_call 164; refine (page_ok _ _ HN.out).mono ?_; rintro e w' ⟨rfl, rfl⟩)
      | (go_at_call 128; clear M1; refine (note_nil _ _ [] _ HO.out.rd).mono ?_; rintro e w' ⟨rfl, rfl⟩)
      | (go_at_call 165; refine (cU _ HO.out.bel).mono ?_; rintro e w1 ⟨rfl, hr1, hb1⟩; have HO1 : Hid (Opn _ _ _ _) := HO.out.later hb1; obtain ⟨ya, yc, yr, _⟩ := HO1.out.rd.good; have y0 : w1.cell? ⟨w.heap.size, 0, none⟩ = some (.slice ya 0 yc) := yr.cell (i := 0) rfl; have y1 : w1.cell? ⟨w.heap.size, 1, none⟩ = some .nilIface := yr.cell (i := 1) rfl; have y2 := yr.frozen 0; have HO2 : Hid (Opn (w.heap.size + 2) w (w1.setCell ⟨w.heap.size, 0, none⟩ (.slice (some ⟨(w.alloc (.cells #[.slice none 0 0, .nilIface] 215)).heap.size, 0, none⟩) p.length p.length)) (some p)) := opn_rest HO1.out hr1 HPL.out (by simp) (by simp) HPM.out; rw [← HZP.out] at HO2; simp only [size_new] at HO2; clear hb1 hr1 yr)
      | (go_at_call 141; refine (cB _ _ HO1.out.bel).mono ?_; rintro e w' ⟨rfl, rfl⟩)
      | (go_at_call 166; refine (mark_any _ m HM.out (some p) _ HO2.out.rd).mono ?_; rintro e w2 ⟨rfl, hp2⟩; have HO3 : Hid (Opn _ _ _ _) := HO2.out.step hp2; clear hp2))
    go_ret
    exact ⟨rfl, HO3.out.tight⟩
set_option maxRecDepth 10000 in
set_option maxHeartbeats 1000000 in
theorem open_full (b off n cap m : Nat) (l : List Nat) (w : World) (hg : Glb w) (hn : pageOk n) (hl : n = l.length) (hc : n ≤ cap) (hm : cap ≤ maxLen) (h256 : ∀ x ∈ l, x < 256) (hr : BRow w (some ⟨b, off, none⟩) l) (hf : isFrame l) (hB : (restL l).all (· == 255) = false) :
    Calls Tryz.prog 125 #[.slice (some ⟨b, off, none⟩) n cap, .int .u8 m] w (OPost w none) := by
  have HO : Hid (Opn (w.heap.size + 2) w (w.alloc (.cells #[.slice none 0 0, .nilIface] 215)) (some [])) := opn_start hg
  have HN : Hid (pageOk n) := hn
  obtain ⟨z, hz⟩ : ∃ z, z = sizeL l := ⟨_, rfl⟩
  obtain ⟨p, hp⟩ : ∃ p, p = bodyL l := ⟨_, rfl⟩
  have cU := fun wr hb => unis_at (wr := wr) hl hc hm h256 hr hb hf hz hp
  have hzn : 6 + z ≤ n := by have h6 := hf.1; have h7 := hf.2.2.2.1; omega
  have cB1 : Hid (∀ wr c', Below w.heap.size w wr → Calls Tryz.prog 141 #[.slice (some ⟨b, off + (6 + z), none⟩) (n - (6 + z)) c'] wr fun e w' => e = .returned (.bool false) ∧ wr = w') := fun wr c' hb =>
    blank_at _ c' _ (restL l) wr false (by simp [restL, hz, hl]) hB.symm (by simp [restL]; unfold maxLen at hm ⊢; omega) (by have := (hr.later hb).sub (i := 6 + z) (j := l.length); rw [List.take_of_length_le (by simp)] at this; unfold restL; rw [← hz]; exact this)
  have hcap : ¬ cap = 6 + z := by
    intro e
    have : restL l = [] := by unfold restL; rw [← hz]; exact List.drop_eq_nil_of_le (by omega)
    rw [this] at hB
    simp at hB
  unfold maxLen at hm
  clear hn hg hl h256 hr hf hz hp hB
  have M1 : Hid True := trivial
  have cB := cB1.out
  clear cB1
  go_enter Tryz.func125, Tryz.ntmps125
  go_wp2_with (first
    | (go_at_call 164; refine (page_ok _ _ HN.out).mono ?_; rintro e w' ⟨rfl, rfl⟩)
    | (go_at_call 128; clear M1; refine (note_nil _ _ [] _ HO.out.rd).mono ?_; rintro e w' ⟨rfl, rfl⟩)
    | (go_at_call 165; refine (cU _ HO.out.bel).mono ?_; rintro e w1 ⟨rfl, hr1, hb1⟩; have HO1 : Hid (Opn _ _ _ _) := HO.out.later hb1; obtain ⟨x, g0⟩ := HO1.out.rd.glb; clear hb1 hr1)
    | (go_at_call 141; refine (cB _ _ HO1.out.bel).mono ?_; rintro e w' ⟨rfl, rfl⟩)
    | (go_at_call 128; refine (note_any _ _ _ (.inr ⟨_, _, rfl⟩) _ _ HO1.out.rd).mono ?_; rintro e w2 ⟨rfl, hp⟩; have HO2 : Hid (Opn _ _ _ none) := HO1.out.step hp; clear hp))
  go_ret
  exact ⟨rfl, HO2.out.tight⟩

open Classical in
/-- What open makes of the bytes l: what stands behind the mark m of an image's payload. -/
noncomputable def openL (m : Nat) (l : List Nat) : Option (List Nat) := if pageOk l.length ∧ isFrame l ∧ (restL l).all (· == 255) = true then markS m (some (bodyL l)) else none
theorem openL_yes {m : Nat} {l : List Nat} (h1 : pageOk l.length) (h2 : isFrame l) (h3 : (restL l).all (· == 255) = true) : openL m l = markS m (some (bodyL l)) := if_pos ⟨h1, h2, h3⟩
theorem openL_no {m : Nat} {l : List Nat} (h : ¬ (pageOk l.length ∧ isFrame l ∧ (restL l).all (· == 255) = true)) : openL m l = none := if_neg h
theorem open_any (a : Option Addr) (n cap m : Nat) (hm256 : m < 256) (l : List Nat) (w : World) (hg : Glb w) (hl : n = l.length) (hc : n ≤ cap) (hm : cap ≤ maxLen) (h256 : ∀ x ∈ l, x < 256) (hr : BRow w a l) :
    Calls Tryz.prog 125 #[.slice a n cap, .int .u8 m] w (OPost w (openL m l)) := by
  by_cases h1 : pageOk n
  · have h1' : pageOk l.length := by rw [← hl]; exact h1
    by_cases h2 : isFrame l
    · obtain ⟨b, off, rfl⟩ : ∃ b off, a = some ⟨b, off, none⟩ := by
        rcases hr with h | ⟨b, off, h, _⟩
        · have := h2.1
          rw [h] at this
          simp at this
        · exact ⟨b, off, h⟩
      cases h3 : (restL l).all (· == 255) with
      | true =>
        rw [openL_yes h1' h2 h3]
        exact open_go b off n cap m hm256 l w hg h1 hl hc hm h256 hr h2 h3
      | false =>
        rw [openL_no (fun h => by rw [h3] at h; exact absurd h.2.2 (by simp))]
        exact open_full b off n cap m l w hg h1 hl hc hm h256 hr h2 h3
    · rw [openL_no (fun h => h2 h.2.1)]
      exact open_no a n cap m l w hg h1 hl hc hm h256 hr h2
  · rw [openL_no (fun h => h1 (by rw [hl]; exact h.1))]
    exact open_page a n cap m w hg h1
end Go.Proofs.YtkfecngkdlajgaaGreatDoor.Hd
namespace Go.Proofs.YtkfecngkdlajgaaGreatDoor.Hd
open Go.RowKit Go.Extern.Stop Go.Stop Go.Extern M
variable {L : Nat}

/-- All bytes of what is left are bytes. -/
def StB (st : Option (List Nat)) : Prop := ∀ l, st = some l → ∀ x ∈ l, x < 256
theorem StB.num {st : Option (List Nat)} (h : StB st) (k : Nat) : StB (numS k st) := by
  intro l hl x hx
  cases st with
  | none => cases hl
  | some t =>
    simp only [numS] at hl
    split at hl
    · cases hl
    · cases hl
      exact h t rfl x (List.mem_of_mem_drop hx)
theorem numV_lt {st : Option (List Nat)} (h : StB st) (k : Nat) : numV k st < 256 ^ k := by
  cases st with
  | none => exact Nat.pow_pos (by decide)
  | some t =>
    simp only [numV]
    split
    · exact Nat.pow_pos (by decide)
    · rename_i hk
      have := getL_lt (t.take k) (fun x hx => h t rfl x (List.mem_of_mem_take hx))
      rwa [List.length_take, Nat.min_eq_left (by omega)] at this
theorem openL_b {m : Nat} {l : List Nat} (h : ∀ x ∈ l, x < 256) : StB (openL m l) := by
  intro t ht
  by_cases hc : pageOk l.length ∧ isFrame l ∧ (restL l).all (· == 255) = true
  · rw [openL_yes hc.1 hc.2.1 hc.2.2] at ht
    unfold markS at ht
    split at ht
    · exact StB.num (st := some (bodyL l)) (fun l2 h2 => by cases h2; exact lt_of_sub h 6 _) 1 t ht
    · cases ht
  · rw [openL_no hc] at ht
    cases ht
theorem endS_cases (st : Option (List Nat)) : endS st = some [] ∨ endS st = none := by
  rcases st with _ | l
  · exact .inr rfl
  · cases l
    · exact .inl rfl
    · exact .inr rfl

open Classical in
/-- How often the block was erased, by the bytes l. -/
noncomputable def parseC (l : List Nat) : Option Nat := if endS (numS 4 (openL 69 l)) = some [] ∧ numV 4 (openL 69 l) ≤ 2147483647 then some (numV 4 (openL 69 l)) else none
def CPost (w : World) (r : Option Nat) (e : Ending) (w' : World) : Prop := e = .returned (.tuple #[.int .i64 (r.getD 0 : Nat), .bool r.isSome]) ∧ Below w.heap.size w w'

/-- What the last look at the reader sees. -/
theorem Opn.err {w wr : World} (h : Opn L w wr none) : ∃ t x, wr.cell? ⟨w.heap.size, 1, none⟩ = some (.iface t x) := by
  obtain ⟨a, n, c, t, x, hr, _⟩ := h.rd.bad
  exact ⟨t, x, hr.cell (i := 1) rfl⟩
theorem Opn.fine {w wr : World} {l : List Nat} (h : Opn L w wr (some l)) : wr.cell? ⟨w.heap.size, 1, none⟩ = some .nilIface := by
  obtain ⟨a, c, hr, _⟩ := h.rd.good
  exact hr.cell (i := 1) rfl
set_option maxRecDepth 10000 in
set_option maxHeartbeats 4000000 in
theorem parseCount_any (a : Option Addr) (n cap : Nat) (l : List Nat) (w : World) (hg : Glb w) (hl : n = l.length) (hc : n ≤ cap) (hm : cap ≤ maxLen) (h256 : ∀ x ∈ l, x < 256) (hr : BRow w a l) :
    Calls Tryz.prog 86 #[.slice a n cap] w (CPost w (parseC l)) := by
  have cO := open_any a n cap 69 (by decide) l w hg hl hc hm h256 hr
  have hzl := numV_lt (openL_b (m := 69) h256) 4
  have HP : Hid (parseC l = if endS (numS 4 (openL 69 l)) = some [] ∧ numV 4 (openL 69 l) ≤ 2147483647 then some (numV 4 (openL 69 l)) else none) := by show _ = _; unfold parseC; congr
  obtain ⟨st, hst⟩ : ∃ st, st = openL 69 l := ⟨_, rfl⟩
  rw [← hst] at cO hzl HP
  clear hst hg hl hc hm h256 hr
  have cN := fun (L : Nat) (w1 : World) (h : Opn L w w1 st) => number_any w.heap.size 4 st w1 h.rd (by decide) (by decide)
  obtain ⟨z, hz⟩ : ∃ z, z = numV 4 st := ⟨_, rfl⟩
  obtain ⟨s1, hs1⟩ : ∃ s1, s1 = numS 4 st := ⟨_, rfl⟩
  rw [← hs1] at cN HP
  rw [← hz] at cN HP hzl
  clear hz hs1
  have cE := fun (L : Nat) (w1 : World) (h : Opn L w w1 s1) => end_any w.heap.size s1 w1 h.rd
  have hs2 := endS_cases s1
  obtain ⟨s2, hs2'⟩ : ∃ s2, s2 = endS s1 := ⟨_, rfl⟩
  rw [← hs2'] at cE HP hs2
  clear hs2'
  have hz2 : z < 4294967296 := hzl
  clear hzl
  by_cases hok : z ≤ 2147483647
  · have HOK : Hid (countOk z) := by show _ ∧ _; omega
    rcases hs2 with rfl | rfl
    · have hres : parseC l = some z := by rw [HP.out, if_pos ⟨rfl, hok⟩]
      rw [hres]
      clear hres HP hok
      go_enter Tryz.func86, Tryz.ntmps86
      go_wp2_with (first
        | (go_at_call 125; refine cO.mono ?_; rintro e w1 ⟨rfl, ho⟩; have HO1 : Hid (Opn _ _ _ _) := ho; clear ho cO)
        | (go_at_call 126; refine (cN _ _ HO1.out).mono ?_; rintro e w2 ⟨rfl, hp⟩; have HO2 : Hid (Opn _ _ _ _) := HO1.out.step hp; clear hp cN)
        | (go_at_call 127; refine (cE _ _ HO2.out).mono ?_; rintro e w3 ⟨rfl, hp⟩; have HO3 : Hid (Opn _ _ _ _) := HO2.out.step hp; clear hp cE)
        | (go_at_call 129; refine (count_ok _ _ HOK.out).mono ?_; rintro e w' ⟨rfl, rfl⟩)
        | (go_at_call 128; refine (note_nil _ _ [] _ HO3.out.rd).mono ?_; rintro e w' ⟨rfl, rfl⟩; have y1 := HO3.out.fine))
      go_ret2
      exact ⟨rfl, HO3.out.bel⟩
    · have hres : parseC l = none := by rw [HP.out, if_neg (fun h => by cases h.1)]
      rw [hres]
      clear hres HP hok
      go_enter Tryz.func86, Tryz.ntmps86
      go_wp2_with (first
        | (go_at_call 125; refine cO.mono ?_; rintro e w1 ⟨rfl, ho⟩; have HO1 : Hid (Opn _ _ _ _) := ho; clear ho cO)
        | (go_at_call 126; refine (cN _ _ HO1.out).mono ?_; rintro e w2 ⟨rfl, hp⟩; have HO2 : Hid (Opn _ _ _ _) := HO1.out.step hp; clear hp cN)
        | (go_at_call 127; refine (cE _ _ HO2.out).mono ?_; rintro e w3 ⟨rfl, hp⟩; have HO3 : Hid (Opn _ _ _ _) := HO2.out.step hp; clear hp cE)
        | (go_at_call 129; refine (count_ok _ _ HOK.out).mono ?_; rintro e w' ⟨rfl, rfl⟩)
        | (go_at_call 128; refine (note_bad _ _ _ (.inl rfl) _ HO3.out.rd).mono ?_; rintro e w' ⟨rfl, rfl⟩; obtain ⟨yt, yx, y1⟩ := HO3.out.err))
      go_ret2
      exact ⟨rfl, HO3.out.bel⟩
  · have HOK : Hid (¬ countOk z) := by show ¬ (_ ∧ _); omega
    have hres : parseC l = none := by rw [HP.out, if_neg (fun h => hok h.2)]
    rw [hres]
    clear hres HP hok hs2
    go_enter Tryz.func86, Tryz.ntmps86
    go_wp2_with (first
      | (go_at_call 125; refine cO.mono ?_; rintro e w1 ⟨rfl, ho⟩; have HO1 : Hid (Opn _ _ _ _) := ho; clear ho cO)
      | (go_at_call 126; refine (cN _ _ HO1.out).mono ?_; rintro e w2 ⟨rfl, hp⟩; have HO2 : Hid (Opn _ _ _ _) := HO1.out.step hp; clear hp cN)
      | (go_at_call 127; refine (cE _ _ HO2.out).mono ?_; rintro e w3 ⟨rfl, hp⟩; have HO3 : Hid (Opn _ _ _ _) := HO2.out.step hp; clear hp cE)
      | (go_at_call 129; refine (count_bad _ _ HOK.out).mono ?_; rintro e w4 ⟨b4, rfl, _, hb4⟩; have HO4 : Hid (Opn _ _ _ _) := HO3.out.later hb4; clear hb4)
      | (go_at_call 128; refine (note_any _ _ _ (.inr ⟨_, _, rfl⟩) _ _ HO4.out.rd).mono ?_; rintro e w5 ⟨rfl, hp⟩; have HO5 : Hid (Opn _ _ _ none) := HO4.out.step hp; clear hp; obtain ⟨yt, yx, y1⟩ := HO5.out.err))
    go_ret2
    exact ⟨rfl, HO5.out.bel⟩
end Go.Proofs.YtkfecngkdlajgaaGreatDoor.Hd
namespace Go.Proofs.YtkfecngkdlajgaaGreatDoor.Hd
open Go.RowKit Go.Extern.Stop Go.Stop Go.Extern M
variable {L : Nat}

/-- The three numbers of a mapping, and what is left behind them. -/
noncomputable def mV1 (l : List Nat) : Nat := numV 2 (openL 77 l)
noncomputable def mV2 (l : List Nat) : Nat := numV 8 (numS 2 (openL 77 l))
noncomputable def mV3 (l : List Nat) : Nat := numV 1 (numS 8 (numS 2 (openL 77 l)))
noncomputable def mS (l : List Nat) : Option (List Nat) := endS (numS 1 (numS 8 (numS 2 (openL 77 l))))
open Classical in
/-- What stands in the block, by the bytes l. -/
noncomputable def parseM (l : List Nat) : Option (Nat × Nat × Nat) := if mS l = some [] ∧ mV1 l ≤ 255 ∧ mV3 l ≤ 64 then some (mV1 l, mV2 l, mV3 l) else none
def MPost (w : World) (r : Option (Nat × Nat × Nat)) (e : Ending) (w' : World) : Prop :=
  e = .returned (.tuple #[mapV ((r.getD (0, 0, 0)).1 : Nat) ((r.getD (0, 0, 0)).2.1 : Nat) ((r.getD (0, 0, 0)).2.2 : Nat), .bool r.isSome]) ∧ Below w.heap.size w w'

/-- The reader, the boxed Map, and the result's box. -/
structure Pm (L : Nat) (W wr : World) (st : Option (List Nat)) (r0 bm : Nat) (ms : List Value) : Prop where
  opn : Opn L W wr st
  lb : L ≤ bm
  ne : bm ≠ W.heap.size
  big : W.heap.size ≤ bm
  mrow : Row wr bm ms 198
  res : Row wr r0 [.int .i64 0, .int .u64 0, .int .i64 0] 198
  r0lt : r0 < W.heap.size
theorem Pm.step {W wr w' : World} {s1 s2 : Option (List Nat)} {r0 bm : Nat} {ms : List Value} (h : Pm L W wr s1 r0 bm ms) (hp : RPost L wr W.heap.size s2 w') : Pm L W w' s2 r0 bm ms :=
  ⟨h.opn.step hp, h.lb, h.ne, h.big, h.mrow.kept hp.kept h.ne, h.res.kept hp.kept (Nat.ne_of_lt h.r0lt), h.r0lt⟩
theorem Pm.later {W wr w' : World} {s1 : Option (List Nat)} {r0 bm : Nat} {ms : List Value} (h : Pm L W wr s1 r0 bm ms) (hb : Below wr.heap.size wr w') : Pm L W w' s1 r0 bm ms :=
  ⟨h.opn.later hb, h.lb, h.ne, h.big, h.mrow.later hb, h.res.later hb, h.r0lt⟩
theorem Pm.start {W w1 : World} {s1 : Option (List Nat)} {r0 : Nat} (h : Opn w1.heap.size W w1 s1) (hr : Row W r0 [.int .i64 0, .int .u64 0, .int .i64 0] 198) (x y z : Value) :
    Pm w1.heap.size W (w1.alloc (.cells #[x, y, z] 198)) s1 r0 w1.heap.size [x, y, z] := by
  have hlt := h.rd.lt
  exact ⟨h.later (below_new _ _), Nat.le_refl _, by omega, by omega, Row.new w1 [_, _, _] _, (hr.later h.bel).alloc _, hr.lt⟩
/-- What the last looks see. -/
structure Seen (wr : World) (br bm : Nat) (x y z : Value) : Prop where
  m0 : wr.cell? ⟨bm, 0, none⟩ = some x
  m1 : wr.cell? ⟨bm, 1, none⟩ = some y
  m2 : wr.cell? ⟨bm, 2, none⟩ = some z
  f0 : wr.frozen? ⟨bm, 0, none⟩ = false
  f1 : wr.frozen? ⟨bm, 1, none⟩ = false
  f2 : wr.frozen? ⟨bm, 2, none⟩ = false
  r0 : wr.cell? ⟨br, 0, none⟩ = some (.int .i64 0)
  r1 : wr.cell? ⟨br, 1, none⟩ = some (.int .u64 0)
  r2 : wr.cell? ⟨br, 2, none⟩ = some (.int .i64 0)
  g0 : wr.frozen? ⟨br, 0, none⟩ = false
  g1 : wr.frozen? ⟨br, 1, none⟩ = false
  g2 : wr.frozen? ⟨br, 2, none⟩ = false
theorem Pm.seen {W wr : World} {s1 : Option (List Nat)} {r0 bm : Nat} {x y z : Value} (h : Pm L W wr s1 r0 bm [x, y, z]) : Seen wr r0 bm x y z :=
  ⟨h.mrow.cell (i := 0) rfl, h.mrow.cell (i := 1) rfl, h.mrow.cell (i := 2) rfl, h.mrow.frozen 0, h.mrow.frozen 1, h.mrow.frozen 2, h.res.cell (i := 0) rfl, h.res.cell (i := 1) rfl, h.res.cell (i := 2) rfl, h.res.frozen 0, h.res.frozen 1, h.res.frozen 2⟩
theorem below_store {w wr : World} (h : Below w.heap.size w wr) (x y z : Value) : Below w.heap.size w (((wr.setCell ⟨w.heap.size, 0, none⟩ x).setCell ⟨w.heap.size, 1, none⟩ y).setCell ⟨w.heap.size, 2, none⟩ z) :=
  ((h.setCell (Nat.le_refl _) _).setCell (Nat.le_refl _) _).setCell (Nat.le_refl _) _

set_option maxRecDepth 10000 in
set_option maxHeartbeats 4000000 in
theorem parseMapping_any (a : Option Addr) (n cap : Nat) (l : List Nat) (w : World) (hg : Glb w) (hl : n = l.length) (hc : n ≤ cap) (hm : cap ≤ maxLen) (h256 : ∀ x ∈ l, x < 256) (hr : BRow w a l) :
    Calls Tryz.prog 194 #[.slice a n cap] w (MPost w (parseM l)) := by
  obtain ⟨W, hW⟩ : ∃ W, W = w.alloc (.cells #[.int .i64 0, .int .u64 0, .int .i64 0] 198) := ⟨_, rfl⟩
  have hBW : Below w.heap.size w W := by rw [hW]; exact below_new _ _
  have HRES : Hid (Row W w.heap.size [.int .i64 0, .int .u64 0, .int .i64 0] 198) := by rw [hW]; exact Row.new w [_, _, _] _
  have cO := open_any a n cap 77 (by decide) l W (hg.later hBW) hl hc hm h256 (hr.later hBW)
  have HBW : Hid (Below w.heap.size w W) := hBW
  clear hBW
  have hb0 := openL_b (m := 77) h256
  have hz1 : mV1 l < 65536 := numV_lt hb0 2
  have hz2 : mV2 l < 18446744073709551616 := numV_lt (hb0.num 2) 8
  have hz3 : mV3 l < 256 := numV_lt ((hb0.num 2).num 8) 1
  have HP : Hid (parseM l = if mS l = some [] ∧ mV1 l ≤ 255 ∧ mV3 l ≤ 64 then some (mV1 l, mV2 l, mV3 l) else none) := by show _ = _; unfold parseM; congr
  have cN1 := fun (L : Nat) (w1 : World) (h : Opn L W w1 (openL 77 l)) => number_any W.heap.size 2 _ w1 h.rd (by decide) (by decide)
  have cN2 := fun (L : Nat) (w1 : World) (h : Opn L W w1 (numS 2 (openL 77 l))) => number_any W.heap.size 8 _ w1 h.rd (by decide) (by decide)
  have cN3 := fun (L : Nat) (w1 : World) (h : Opn L W w1 (numS 8 (numS 2 (openL 77 l)))) => number_any W.heap.size 1 _ w1 h.rd (by decide) (by decide)
  have cE := fun (L : Nat) (w1 : World) (h : Opn L W w1 (numS 1 (numS 8 (numS 2 (openL 77 l))))) => end_any W.heap.size _ w1 h.rd
  have hs2 : mS l = some [] ∨ mS l = none := endS_cases _
  change ∀ L w1, _ → Calls _ _ _ _ fun e w' => e = .returned (.int .u64 (mV1 l : Nat)) ∧ _ at cN1
  change ∀ L w1, _ → Calls _ _ _ _ fun e w' => e = .returned (.int .u64 (mV2 l : Nat)) ∧ _ at cN2
  change ∀ L w1, _ → Calls _ _ _ _ fun e w' => e = .returned (.int .u64 (mV3 l : Nat)) ∧ _ at cN3
  change ∀ L w1, _ → Calls _ _ _ _ fun e w' => e = .returned (.tuple #[]) ∧ RPost L w1 W.heap.size (mS l) w' at cE
  obtain ⟨z1, e1⟩ : ∃ z, z = mV1 l := ⟨_, rfl⟩
  obtain ⟨z2, e2⟩ : ∃ z, z = mV2 l := ⟨_, rfl⟩
  obtain ⟨z3, e3⟩ : ∃ z, z = mV3 l := ⟨_, rfl⟩
  obtain ⟨s4, e4⟩ : ∃ s, s = mS l := ⟨_, rfl⟩
  rw [← e1] at hz1 HP cN1
  rw [← e2] at hz2 HP cN2
  rw [← e3] at hz3 HP cN3
  rw [← e4] at HP cE hs2
  obtain ⟨s0, f0⟩ : ∃ s, s = openL 77 l := ⟨_, rfl⟩
  rw [← f0] at cO cN1 cN2 cN3 cE
  obtain ⟨s1, f1⟩ : ∃ s, s = numS 2 s0 := ⟨_, rfl⟩
  rw [← f1] at cN1 cN2 cN3 cE
  obtain ⟨s2, f2⟩ : ∃ s, s = numS 8 s1 := ⟨_, rfl⟩
  rw [← f2] at cN2 cN3 cE
  obtain ⟨s3, f3⟩ : ∃ s, s = numS 1 s2 := ⟨_, rfl⟩
  rw [← f3] at cN3 cE
  clear e1 e2 e3 e4 f0 f1 f2 f3 hb0 hg hl hc hm h256 hr
  have M1 : Hid True := trivial
  have M2 : Hid True := trivial
  by_cases hok : z1 ≤ 255 ∧ z3 ≤ 64
  · have HOK : Hid (lebOk z1 ∧ pagesOk z3) := by show (_ ∧ _) ∧ (_ ∧ _); omega
    have cM := map_ok z1 z2 z3
    unfold mapV at cM
    rcases hs2 with rfl | rfl
    · have hres : parseM l = some (z1, z2, z3) := by rw [HP.out, if_pos ⟨rfl, hok⟩]
      rw [hres]
      clear hres HP hok
      go_enter Tryz.func194, Tryz.ntmps194
      go_wp2_with fail
      rw [← hW]
      clear hW
      go_wp2_with (first
        | (go_at_call 125; refine cO.mono ?_; rintro e w1 ⟨rfl, ho⟩; have HO1 : Hid (Opn _ _ _ _) := ho; clear ho cO)
        | (go_at_call 126; clear M1; refine (cN1 _ _ HO1.out).mono ?_; rintro e w2 ⟨rfl, hp⟩; have HO2 : Hid (Opn _ _ _ _) := HO1.out.step hp; clear hp cN1)
        | (go_at_call 126; clear M2; refine (cN2 _ _ HO2.out).mono ?_; rintro e w3 ⟨rfl, hp⟩; have HO3 : Hid (Opn _ _ _ _) := HO2.out.step hp; clear hp cN2)
        | (go_at_call 126; refine (cN3 _ _ HO3.out).mono ?_; rintro e w4 ⟨rfl, hp⟩; have HP5 : Hid (Pm _ _ _ _ _ _ _) := Pm.start (HO3.out.step hp).tight HRES.out (.int .i64 z1) (.int .u64 z2) (.int .i64 z3); clear hp cN3)
        | (go_at_call 127; refine (cE _ _ HP5.out.opn).mono ?_; rintro e w6 ⟨rfl, hp⟩; have HP6 : Hid (Pm _ _ _ _ _ _ _) := HP5.out.step hp; obtain ⟨m0, m1, m2, f0, f1, f2, r0, r1, r2, g0, g1, g2⟩ := HP6.out.seen; clear hp cE)
        | (go_at_call 214; clear m0 m1 m2 f0 f1 f2 r0 r1 r2 g0 g1 g2; refine (cM _ HOK.out.1 HOK.out.2).mono ?_; rintro e w7 ⟨rfl, hb7⟩; have HP7 : Hid (Pm _ _ _ _ _ _ _) := HP6.out.later hb7; clear hb7)
        | (go_at_call 128; refine (note_nil _ _ [] _ HP7.out.opn.rd).mono ?_; rintro e w' ⟨rfl, rfl⟩; have y1 := HP7.out.opn.fine; obtain ⟨m0, m1, m2, f0, f1, f2, r0, r1, r2, g0, g1, g2⟩ := HP7.out.seen))
      (try simp only [Exit.inBlock, Exit.then])
      refine bodyPost_ret (v := .tuple #[.agg #[.int .i64 z1, .int .u64 z2, .int .i64 z3], .bool true]) ?_ rfl ⟨rfl, below_store (Below.after HBW.out HP7.out.opn.bel) _ _ _⟩
      rw [results_cell_tmp rfl]
      go_simp
    · have hres : parseM l = none := by rw [HP.out, if_neg (fun h => by cases h.1)]
      rw [hres]
      clear hres HP hok
      go_enter Tryz.func194, Tryz.ntmps194
      go_wp2_with fail
      rw [← hW]
      clear hW
      go_wp2_with (first
        | (go_at_call 125; refine cO.mono ?_; rintro e w1 ⟨rfl, ho⟩; have HO1 : Hid (Opn _ _ _ _) := ho; clear ho cO)
        | (go_at_call 126; clear M1; refine (cN1 _ _ HO1.out).mono ?_; rintro e w2 ⟨rfl, hp⟩; have HO2 : Hid (Opn _ _ _ _) := HO1.out.step hp; clear hp cN1)
        | (go_at_call 126; clear M2; refine (cN2 _ _ HO2.out).mono ?_; rintro e w3 ⟨rfl, hp⟩; have HO3 : Hid (Opn _ _ _ _) := HO2.out.step hp; clear hp cN2)
        | (go_at_call 126; refine (cN3 _ _ HO3.out).mono ?_; rintro e w4 ⟨rfl, hp⟩; have HP5 : Hid (Pm _ _ _ _ _ _ _) := Pm.start (HO3.out.step hp).tight HRES.out (.int .i64 z1) (.int .u64 z2) (.int .i64 z3); clear hp cN3)
        | (go_at_call 127; refine (cE _ _ HP5.out.opn).mono ?_; rintro e w6 ⟨rfl, hp⟩; have HP6 : Hid (Pm _ _ _ _ _ _ _) := HP5.out.step hp; obtain ⟨m0, m1, m2, f0, f1, f2, r0, r1, r2, g0, g1, g2⟩ := HP6.out.seen; clear hp cE)
        | (go_at_call 214; clear m0 m1 m2 f0 f1 f2 r0 r1 r2 g0 g1 g2; refine (cM _ HOK.out.1 HOK.out.2).mono ?_; rintro e w7 ⟨rfl, hb7⟩; have HP7 : Hid (Pm _ _ _ _ _ _ _) := HP6.out.later hb7; clear hb7)
        | (go_at_call 128; refine (note_bad _ _ _ (.inl rfl) _ HP7.out.opn.rd).mono ?_; rintro e w' ⟨rfl, rfl⟩; obtain ⟨yt, yx, y1⟩ := HP7.out.opn.err; obtain ⟨m0, m1, m2, f0, f1, f2, r0, r1, r2, g0, g1, g2⟩ := HP7.out.seen))
      (try simp only [Exit.inBlock, Exit.then])
      refine bodyPost_ret (v := .tuple #[.agg #[.int .i64 0, .int .u64 0, .int .i64 0], .bool false]) ?_ rfl ⟨rfl, below_store (Below.after HBW.out HP7.out.opn.bel) _ _ _⟩
      rw [results_cell_tmp rfl]
      go_simp
  · have HOK : Hid (¬ (lebOk z1 ∧ pagesOk z3)) := by show ¬ ((_ ∧ _) ∧ (_ ∧ _)); omega
    have cM := map_bad z1 z2 z3
    unfold mapV at cM
    have hres : parseM l = none := by rw [HP.out, if_neg (fun h => hok h.2)]
    rw [hres]
    clear hres HP hok hs2
    go_enter Tryz.func194, Tryz.ntmps194
    go_wp2_with fail
    rw [← hW]
    clear hW
    go_wp2_with (first
      | (go_at_call 125; refine cO.mono ?_; rintro e w1 ⟨rfl, ho⟩; have HO1 : Hid (Opn _ _ _ _) := ho; clear ho cO)
      | (go_at_call 126; clear M1; refine (cN1 _ _ HO1.out).mono ?_; rintro e w2 ⟨rfl, hp⟩; have HO2 : Hid (Opn _ _ _ _) := HO1.out.step hp; clear hp cN1)
      | (go_at_call 126; clear M2; refine (cN2 _ _ HO2.out).mono ?_; rintro e w3 ⟨rfl, hp⟩; have HO3 : Hid (Opn _ _ _ _) := HO2.out.step hp; clear hp cN2)
      | (go_at_call 126; refine (cN3 _ _ HO3.out).mono ?_; rintro e w4 ⟨rfl, hp⟩; have HP5 : Hid (Pm _ _ _ _ _ _ _) := Pm.start (HO3.out.step hp).tight HRES.out (.int .i64 z1) (.int .u64 z2) (.int .i64 z3); clear hp cN3)
      | (go_at_call 127; refine (cE _ _ HP5.out.opn).mono ?_; rintro e w6 ⟨rfl, hp⟩; have HP6 : Hid (Pm _ _ _ _ _ _ _) := HP5.out.step hp; obtain ⟨m0, m1, m2, f0, f1, f2, r0, r1, r2, g0, g1, g2⟩ := HP6.out.seen; clear hp cE)
      | (go_at_call 214; clear m0 m1 m2 f0 f1 f2 r0 r1 r2 g0 g1 g2; refine (cM _ HOK.out).mono ?_; rintro e w7 ⟨b7, rfl, _, hb7⟩; have HP7 : Hid (Pm _ _ _ _ _ _ _) := HP6.out.later hb7; clear hb7)
      | (go_at_call 128; refine (note_any _ _ _ (.inr ⟨_, _, rfl⟩) _ _ HP7.out.opn.rd).mono ?_; rintro e w8 ⟨rfl, hp⟩; have HP8 : Hid (Pm _ _ _ none _ _ _) := HP7.out.step hp; clear hp; obtain ⟨yt, yx, y1⟩ := HP8.out.opn.err; obtain ⟨m0, m1, m2, f0, f1, f2, r0, r1, r2, g0, g1, g2⟩ := HP8.out.seen))
    (try simp only [Exit.inBlock, Exit.then])
    refine bodyPost_ret (v := .tuple #[.agg #[.int .i64 0, .int .u64 0, .int .i64 0], .bool false]) ?_ rfl ⟨rfl, below_store (Below.after HBW.out HP8.out.opn.bel) _ _ _⟩
    rw [results_cell_tmp rfl]
    go_simp
end Go.Proofs.YtkfecngkdlajgaaGreatDoor.Hd
namespace Go.Proofs.YtkfecngkdlajgaaGreatDoor.Hd
open M

theorem img_eq (p : List Nat) (page : Nat) (h : p.length + 6 ≤ page) : imgL p page = frameL p ++ List.replicate (page - (p.length + 6)) 255 := by
  unfold imgL fillL
  rw [frameL_length, List.take_of_length_le (by rw [frameL_length]; exact h)]
theorem rest_frame (p m : List Nat) (h : p.length ≤ 1024) : restL (frameL p ++ m) = m := by
  unfold restL
  rw [size_frame p m h, List.drop_append, List.drop_eq_nil_of_le (by rw [frameL_length]; omega)]
  rw [frameL_length, List.nil_append, show 6 + p.length - (p.length + 6) = 0 by omega, List.drop_zero]
theorem all_255 (k : Nat) : (List.replicate k 255).all (· == 255) = true := by simp
theorem open_img (m : Nat) (p : List Nat) (page : Nat) (h1 : 1 ≤ p.length) (h2 : p.length ≤ 58) (h3 : 64 ≤ page) (h4 : page ≤ 512) : openL m (imgL p page) = markS m (some p) := by
  have hl : pageOk (imgL p page).length := by rw [imgL_length]; unfold pageOk; omega
  rw [img_eq p page (by omega)] at hl ⊢
  rw [openL_yes hl (frame_is p _ h1 (by omega)) (by rw [rest_frame p _ (by omega)]; exact all_255 _), body_frame p _ (by omega)]
theorem mark_yes (x : Nat) (t : List Nat) : markS x (some (x :: t)) = some t := by simp [markS, numV, numS, getL]
theorem parseC_yes {l : List Nat} {z : Nat} (h1 : endS (numS 4 (openL 69 l)) = some []) (h2 : numV 4 (openL 69 l) = z) (h3 : z ≤ 2147483647) : parseC l = some z := by
  subst h2
  exact if_pos ⟨h1, h3⟩
theorem back_c (n page : Nat) (h1 : n ≤ 2147483647) (h3 : 64 ≤ page) (h4 : page ≤ 512) : parseC (imgL (countL n) page) = some n := by
  have ho : openL 69 (imgL (countL n) page) = some (putL 4 n) := by
    rw [open_img 69 _ page (by rw [countL_length]; decide) (by rw [countL_length]; decide) h3 h4]
    exact mark_yes 69 _
  have hv : numV 4 (some (putL 4 n)) = n := by
    simp only [numV, putL_length]
    rw [if_neg (by decide), List.take_of_length_le (by rw [putL_length]; exact Nat.le_refl _), getL_putL]
    exact Nat.mod_eq_of_lt (by omega)
  have hs : numS 4 (some (putL 4 n)) = some [] := by
    simp only [numS, putL_length]
    rw [if_neg (by decide), List.drop_eq_nil_of_le (by rw [putL_length]; exact Nat.le_refl _)]
  exact parseC_yes (by rw [ho, hs]; rfl) (by rw [ho]; exact hv) h1
end Go.Proofs.YtkfecngkdlajgaaGreatDoor.Hd
namespace Go.Proofs.YtkfecngkdlajgaaGreatDoor.Hd
open Go.RowKit Go.Extern.Stop Go.Stop Go.Extern M

theorem fillL_lt {l : List Nat} (h : ∀ x ∈ l, x < 256) (n : Nat) : ∀ x ∈ fillL l n, x < 256 := by
  intro x hx
  simp only [fillL, List.mem_append, List.mem_replicate] at hx
  rcases hx with hx | ⟨_, rfl⟩
  · exact h x (List.mem_of_mem_take hx)
  · decide
theorem imgL_lt {p : List Nat} (h : ∀ x ∈ p, x < 256) (page : Nat) : ∀ x ∈ imgL p page, x < 256 := fillL_lt (frameL_lt h) page

/-- Bytes that lie in memory. -/
structure Lies (w : World) (a : Option Addr) (n cap : Nat) (l : List Nat) : Prop where
  len : n = l.length
  le : n ≤ cap
  max : cap ≤ maxLen
  lt : ∀ x ∈ l, x < 256
  row : BRow w a l
theorem Lies.later {w w' : World} {a : Option Addr} {n cap : Nat} {l : List Nat} (h : Lies w a n cap l) (hb : Below w.heap.size w w') : Lies w' a n cap l := ⟨h.len, h.le, h.max, h.lt, h.row.later hb⟩
theorem lies_img {w w' : World} {g page : Nat} {p : List Nat} (ho : Own w w' (.slice (some ⟨g, 0, none⟩) page page) (imgL p page)) (hp : page ≤ 512) (h : ∀ x ∈ p, x < 256) : Lies w' (some ⟨g, 0, none⟩) page page (imgL p page) :=
  ⟨(imgL_length _ _).symm, Nat.le_refl _, by unfold maxLen; omega, imgL_lt h page, own_at ho⟩

/-- Count and Mapping, with what is needed behind them. -/
def MadePost (w : World) (p : List Nat) (page : Nat) (e : Ending) (w' : World) : Prop :=
  ∃ g, e = .returned (.tuple #[.slice (some ⟨g, 0, none⟩) page page, .int .i64 0]) ∧ Lies w' (some ⟨g, 0, none⟩) page page (imgL p page) ∧ Below w.heap.size w w' ∧ Own w w' (.slice (some ⟨g, 0, none⟩) page page) (imgL p page)
theorem count_made (n page : Nat) (w : World) (h1 : n ≤ 2147483647) (h2 : 64 ≤ page) (h3 : page ≤ 512) : Calls Tryz.prog 169 #[.int .i64 n, .int .i64 page] w (MadePost w (countL n) page) := by
  refine (count_yes n page w h1 h2 h3).mono ?_
  rintro e w' ⟨g, rfl, ho⟩
  exact ⟨g, rfl, lies_img ho h3 (countL_lt n), ho.2, ho⟩
theorem map_made (leb seq pages page : Nat) (w : World) (h1 : leb ≤ 255) (h2 : pages ≤ 64) (hs : seq < 18446744073709551616) (h3 : 64 ≤ page) (h4 : page ≤ 512) :
    Calls Tryz.prog 191 #[.agg #[.int .i64 leb, .int .u64 seq, .int .i64 pages], .int .i64 page] w (MadePost w (mapL leb seq pages) page) := by
  refine (mapping_yes leb seq pages page w h1 h2 hs h3 h4).mono ?_
  rintro e w' ⟨g, rfl, ho⟩
  exact ⟨g, rfl, lies_img ho h4 (mapL_lt _ _ _), ho.2, ho⟩

theorem b7 : parseC (imgL (countL 7) 64) = some 7 := back_c 7 64 (by decide) (by decide) (by decide)
end Go.Proofs.YtkfecngkdlajgaaGreatDoor.Hd
