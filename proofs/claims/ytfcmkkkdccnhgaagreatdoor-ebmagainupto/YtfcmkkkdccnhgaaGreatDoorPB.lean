/-
  The document's manager of logical blocks, as it lies in memory.
  The document's manager: Max, none, Unmap, Read.
  The document's manager: Unmap, Read.
  The document's manager: a page more in a logical block.
-/
import Derived.Test.YtfcmkkkdccnhgaaGreatDoorGI
import Derived.Test.YtfcmkkkdccnhgaaGreatDoorGD
import Derived.Deep.AppendLies
import Derived.Laws.OwnMore
namespace Go.Proofs.YtfcmkkkdccnhgaaGreatDoor
open Go.RowKit
set_option maxRecDepth 10000

/-- A logical block: the slice of its pages, the pages' slices, the pages. -/
structure LB where
  v : Value
  us : List Value
  pg : List (List Nat)
/-- The manager: its box, the row of its logical blocks. -/
structure DMg where
  p : Nat
  q : Nat
  qc : Nat
  ls : List LB
def lbCells (x : LB) : List Value := [x.v, .bool false]
theorem lb_len (x : LB) : (lbCells x).length = 2 := rfl
def noLB : LB := ⟨.slice none 0 0, [], []⟩
theorem pown_kept {w w' : World} {S : Nat → Prop} {base e size n : Nat} {v : Value} {xs : List Value} (h : w.ownsRow base e size v n xs) (hk : Kept S w w') (hs : ∀ k, v.ownBlock = some k → ¬ S k) : w'.ownsRow base e size v n xs := by
  refine ⟨h.1, ?_⟩
  rcases h.2 with hn' | ⟨g, cap, cur, rfl, hbg, hgg, rest⟩
  · exact .inl hn'
  · refine .inr ⟨g, cap, cur, rfl, hbg, ?_, rest⟩
    rw [hk.block g (Array.getElem?_eq_some_iff.1 hgg).1 (hs g rfl)]
    exact hgg
theorem pown_type {w : World} {base e size n k : Nat} {v : Value} {xs : List Value} (h : w.ownsRow base e size v n xs) (hk : v.ownBlock = some k) : Row w k [] e := by
  rcases h.2 with ⟨rfl, _⟩ | ⟨g, cap, cur, rfl, hbg, hgg, rest⟩
  · cases hk
  · cases hk
    exact ⟨cur.toList, by simpa using hgg⟩
/-- A page: bytes of the manager's own. -/
structure DP (base : Nat) (w : World) (u : Value) (d : List Nat) : Prop where
  own : w.ownsRow base 5 1 u d.length (d.map u8v)
  lt : ∀ y ∈ d, y < 256
structure DL (base : Nat) (w : World) (x : LB) : Prop where
  own : w.ownsRow base 36 1 x.v x.pg.length x.us
  each : ∀ (i : Nat) u d, x.us[i]? = some u → x.pg[i]? = some d → DP base w u d
structure DMs (base : Nat) (w : World) (gb gp gz gr : Nat) (d : DMg) : Prop where
  box : Row w d.p [.int .i64 gb, .int .i64 gp, .int .i64 gz, .int .i64 gr, .slice (some ⟨d.q, 0, none⟩) d.ls.length d.qc] 52
  row : Row w d.q (d.ls.flatMap lbCells) 80
  each : ∀ x ∈ d.ls, DL base w x
  dis : ∀ (i j : Nat) x y k, d.ls[i]? = some x → d.ls[j]? = some y → x.v.ownBlock = some k → y.v.ownBlock = some k → i = j
  low : base ≤ d.p ∧ base ≤ d.q
  cap : d.ls.length ≤ d.qc ∧ d.qc ≤ maxLen
/-- What may be written of it. -/
def DFoot (d : DMg) (k : Nat) : Prop := k = d.q ∨ ∃ x ∈ d.ls, x.v.ownBlock = some k
theorem DP.kept {S : Nat → Prop} {base : Nat} {w w' : World} {u : Value} {d : List Nat} (h : DP base w u d) (hk : Kept S w w') (hS : ∀ k, Row w k [] 5 → ¬ S k) : DP base w' u d :=
  ⟨pown_kept h.own hk (fun k hb => hS k (pown_type h.own hb)), h.lt⟩
theorem DL.kept {S : Nat → Prop} {base : Nat} {w w' : World} {x : LB} (h : DL base w x) (hk : Kept S w w') (hS : ∀ k, Row w k [] 5 → ¬ S k) (hv : ∀ k, x.v.ownBlock = some k → ¬ S k) : DL base w' x :=
  ⟨pown_kept h.own hk hv, fun i u d hu hd => (h.each i u d hu hd).kept hk hS⟩
theorem DMs.kept {S : Nat → Prop} {base : Nat} {w w' : World} {gb gp gz gr : Nat} {d : DMg} (h : DMs base w gb gp gz gr d) (hk : Kept S w w') (hS : ∀ k cs t, Row w k cs t → (t = 52 ∨ t = 80 ∨ t = 36 ∨ t = 5) → ¬ S k) : DMs base w' gb gp gz gr d :=
  ⟨h.box.kept hk (hS _ _ _ h.box (.inl rfl)), h.row.kept hk (hS _ _ _ h.row (.inr (.inl rfl))), fun x hx => (h.each x hx).kept hk (fun k hr => hS k _ _ hr (.inr (.inr (.inr rfl)))) (fun k hb => hS k _ _ (pown_type (h.each x hx).own hb) (.inr (.inr (.inl rfl)))), h.dis, h.low, h.cap⟩
theorem DMs.later {base : Nat} {w w' : World} {gb gp gz gr : Nat} {d : DMg} (h : DMs base w gb gp gz gr d) (hb : Below w.heap.size w w') : DMs base w' gb gp gz gr d :=
  h.kept (S := fun _ => False) (.of_below hb) (fun _ _ _ _ _ => id)
theorem DMs.cells {base : Nat} {w : World} {gb gp gz gr : Nat} {d : DMg} (h : DMs base w gb gp gz gr d) : w.cell? ⟨d.p, 0, none⟩ = some (.int .i64 gb) ∧ w.cell? ⟨d.p, 1, none⟩ = some (.int .i64 gp) ∧ w.cell? ⟨d.p, 2, none⟩ = some (.int .i64 gz) ∧ w.cell? ⟨d.p, 3, none⟩ = some (.int .i64 gr) ∧ w.cell? ⟨d.p, 4, none⟩ = some (.slice (some ⟨d.q, 0, none⟩) d.ls.length d.qc) :=
  ⟨h.box.cell (i := 0) rfl, h.box.cell (i := 1) rfl, h.box.cell (i := 2) rfl, h.box.cell (i := 3) rfl, h.box.cell (i := 4) rfl⟩
theorem DMs.at {base : Nat} {w : World} {gb gp gz gr : Nat} {d : DMg} (h : DMs base w gb gp gz gr d) {i : Nat} {x : LB} (hx : d.ls[i]? = some x) : w.cell? ⟨d.q, i * 2, none⟩ = some x.v ∧ w.cell? ⟨d.q, i * 2 + 1, none⟩ = some (.bool false) := by
  have g : ∀ k, k < 2 → ∀ u, (lbCells x)[k]? = some u → w.cell? ⟨d.q, i * 2 + k, none⟩ = some u := fun k hk u hu =>
    h.row.cell (by rw [flat_get lbCells 2 lb_len k hk d.ls i x hx]; exact hu)
  exact ⟨g 0 (by omega) _ rfl, g 1 (by omega) _ rfl⟩
theorem DL.form {base : Nat} {w : World} {x : LB} (h : DL base w x) : ∃ a cap, x.v = .slice a x.pg.length cap := by
  rcases h.own.2 with ⟨e, h0⟩ | ⟨g, cap, cur, e, _⟩
  · exact ⟨none, 0, by rw [e, h0]⟩
  · exact ⟨_, cap, e⟩
theorem DL.page {base : Nat} {w : World} {x : LB} (h : DL base w x) {k : Nat} {d : List Nat} (hd : x.pg[k]? = some d) : ∃ g cap u, x.v = .slice (some ⟨g, 0, none⟩) x.pg.length cap ∧ w.cell? ⟨g, k, none⟩ = some u ∧ DP base w u d := by
  have hk := (List.getElem?_eq_some_iff.1 hd).1
  have hlen := h.own.1
  rcases h.own.2 with ⟨e, h0⟩ | ⟨g, cap, cur, e, hbg, hgg, rest⟩
  · omega
  · obtain ⟨u, hu⟩ : ∃ u, x.us[k]? = some u := ⟨_, List.getElem?_eq_getElem (by omega)⟩
    refine ⟨g, cap, u, e, ?_, h.each k u d hu hd⟩
    have ho := h.own
    rw [e] at ho
    rw [ho.cellAt k (by omega)]
    exact hu
theorem DP.form {base : Nat} {w : World} {u : Value} {d : List Nat} (h : DP base w u d) : ∃ a cap, u = .slice a d.length cap ∧ BRow w a d := by
  obtain ⟨a, cap, e, hr, _⟩ := owns_row h.own
  exact ⟨a, cap, e, hr⟩
end Go.Proofs.YtfcmkkkdccnhgaaGreatDoor
namespace Go.Proofs.YtfcmkkkdccnhgaaGreatDoor
open Go.RowKit
set_option maxRecDepth 10000

theorem dmax_any {base : Nat} {w : World} {gb gp gz gr : Nat} {d : DMg} (h : DMs base w gb gp gz gr d) (hp : 2 ≤ gp ∧ gp ≤ 64) :
    Calls Tryz.prog 39 #[.pointer (some ⟨d.p, 0, none⟩)] w fun e w' => e = .returned (.int .i64 ((gp : Int) - 2)) ∧ w = w' := by
  have c1 := h.cells.2.1
  clear h
  go_enter Tryz.func39, Tryz.ntmps39
  go_wp2
  go_ret
  exact ⟨rfl, rfl⟩
theorem dnone_any {base : Nat} {w : World} {gb gp gz gr : Nat} {d : DMg} (h : DMs base w gb gp gz gr d) (leb : Int) :
    Calls Tryz.prog 73 #[.pointer (some ⟨d.p, 0, none⟩), .int .i64 leb] w fun e w' => e = .returned (.bool (decide ¬ (0 ≤ leb ∧ leb < d.ls.length))) ∧ w = w' := by
  have c4 := h.cells.2.2.2.2
  clear h
  by_cases h0 : leb < 0
  · go_enter Tryz.func73, Tryz.ntmps73
    go_wp2
    go_ret
    exact ⟨by first | (simp; done) | (simp; omega), rfl⟩
  · by_cases h1 : (d.ls.length : Int) ≤ leb
    · go_enter Tryz.func73, Tryz.ntmps73
      go_wp2
      go_ret
      exact ⟨by first | (simp; done) | (simp; omega), rfl⟩
    · go_enter Tryz.func73, Tryz.ntmps73
      go_wp2
      go_ret
      exact ⟨by first | (simp; done) | (simp; omega), rfl⟩
/-- A logical block is set. -/
def DMg.put (d : DMg) (i : Nat) (x : LB) : DMg := { d with ls := d.ls.set i x }
/-- Two cells set. -/
def put2 (w : World) (q i : Nat) (v : Value) : World := (w.setCell ⟨q, i * 2, none⟩ v).setCell ⟨q, i * 2 + 1, none⟩ (.bool false)
theorem lb_set (l : List LB) (i : Nat) (x : LB) (hi : i < l.length) : (l.set i x).flatMap lbCells = ((l.flatMap lbCells).set (i * 2) x.v).set (i * 2 + 1) (.bool false) := by
  induction l generalizing i with
  | nil => simp at hi
  | cons a l ih =>
    cases i with
    | zero => simp [lbCells]
    | succ i =>
      have := ih i (by simpa using hi)
      simp only [List.set_cons_succ, List.flatMap_cons, this, lbCells]
      rw [show (i + 1) * 2 = i * 2 + 2 by omega]
      simp
theorem lb_set0 (l : List LB) (i : Nat) (x o : LB) (ho : l[i]? = some o) : (l.set i x).flatMap lbCells = (l.flatMap lbCells).set (i * 2) x.v := by
  induction l generalizing i with
  | nil => simp at ho
  | cons a l ih =>
    cases i with
    | zero => simp [lbCells]
    | succ i =>
      have := ih i (by simpa using ho)
      simp only [List.set_cons_succ, List.flatMap_cons, this, lbCells]
      rw [show (i + 1) * 2 = i * 2 + 2 by omega]
      simp
/-- What a write of a logical block leaves: the row is set, all other blocks but those that S says are as they were. -/
theorem DMs.wrote {base : Nat} {w W : World} {gb gp gz gr : Nat} {d : DMg} (h : DMs base w gb gp gz gr d) {i : Nat} {x o : LB} (ho : d.ls[i]? = some o) (hrow : Row W d.q ((d.ls.set i x).flatMap lbCells) 80) (hx : DL base W x) (hk : Kept (fun k => k = d.q ∨ o.v.ownBlock = some k) w W) (hn : ∀ k, x.v.ownBlock = some k → o.v.ownBlock = some k ∨ w.heap.size ≤ k) : DMs base W gb gp gz gr (d.put i x) := by
  have hoL := h.each o (List.mem_of_getElem? ho)
  have far : ∀ k cs t, Row w k cs t → t ≠ 80 → t ≠ 36 → ¬ (k = d.q ∨ o.v.ownBlock = some k) := fun k cs t hr h1 h2 => by
    rintro (e | e)
    · exact hr.ne h.row h1 e
    · exact hr.ne (pown_type hoL.own e) h2 rfl
  have oth : ∀ (j : Nat) y, j ≠ i → d.ls[j]? = some y → DL base W y := fun j y hj hy => by
    have hyL := h.each y (List.mem_of_getElem? hy)
    refine hyL.kept hk (fun k hr => far k _ _ hr (by decide) (by decide)) (fun k hb => ?_)
    rintro (e | e)
    · exact (pown_type hyL.own hb).ne h.row (by decide) e
    · exact hj (h.dis j i y o k hy ho hb e)
  have hil := (List.getElem?_eq_some_iff.1 ho).1
  have get : ∀ (j : Nat) y, (d.ls.set i x)[j]? = some y → (j = i ∧ y = x) ∨ (j ≠ i ∧ d.ls[j]? = some y) := fun j y hy => by
    by_cases hj : j = i
    · subst hj
      rw [List.getElem?_set_self hil] at hy
      exact .inl ⟨rfl, (Option.some.inj hy).symm⟩
    · rw [List.getElem?_set_ne (fun e => hj e.symm)] at hy
      exact .inr ⟨hj, hy⟩
  refine ⟨?_, hrow, ?_, ?_, h.low, by simpa [DMg.put] using h.cap⟩
  · have := h.box.kept hk (far _ _ _ h.box (by decide) (by decide))
    simpa [DMg.put] using this
  · intro y hy
    obtain ⟨j, hj⟩ := List.getElem?_of_mem hy
    rcases get j y hj with ⟨_, rfl⟩ | ⟨hne, hj'⟩
    · exact hx
    · exact oth j y hne hj'
  · intro a b y z k ha hb hya hzb
    rcases get a y ha with ⟨ea, rfl⟩ | ⟨na, ha'⟩ <;> rcases get b z hb with ⟨eb, rfl⟩ | ⟨nb, hb'⟩
    · rw [ea, eb]
    · rcases hn k hya with e | e
      · exact absurd (h.dis b i z o k hb' ho hzb e) nb
      · have := ((h.each z (List.mem_of_getElem? hb')).own.lt k hzb).2
        omega
    · rcases hn k hzb with e | e
      · exact absurd (h.dis a i y o k ha' ho hya e) na
      · have := ((h.each y (List.mem_of_getElem? ha')).own.lt k hya).2
        omega
    · exact h.dis a b y z k ha' hb' hya hzb
end Go.Proofs.YtfcmkkkdccnhgaaGreatDoor
namespace Go.Proofs.YtfcmkkkdccnhgaaGreatDoor
open Go.RowKit
set_option maxRecDepth 10000

theorem DL.nil (base : Nat) (w : World) : DL base w noLB := ⟨World.ownsRow_nil _ _ _ _, fun i u d hu _ => by simp [noLB] at hu⟩
theorem dfoot_sub {d : DMg} {i : Nat} {o : LB} (ho : d.ls[i]? = some o) : ∀ k, (k = d.q ∨ o.v.ownBlock = some k) → DFoot d k := by
  rintro k (e | e)
  · exact .inl e
  · exact .inr ⟨o, List.mem_of_getElem? ho, e⟩
theorem put2_row {w : World} {d : DMg} {i : Nat} {x o : LB} (hr : Row w d.q (d.ls.flatMap lbCells) 80) (ho : d.ls[i]? = some o) : Row (put2 w d.q i x.v) d.q ((d.ls.set i x).flatMap lbCells) 80 := by
  have hil := (List.getElem?_eq_some_iff.1 ho).1
  have hlen : (d.ls.flatMap lbCells).length = d.ls.length * 2 := flat_len lbCells 2 lb_len d.ls
  rw [lb_set _ _ _ hil]
  exact (hr.set (i := i * 2) x.v (by omega)).set (i := i * 2 + 1) (.bool false) (by rw [List.length_set]; omega)
theorem put2_kept (w : World) (q i : Nat) (v : Value) (S : Nat → Prop) (hS : S q) : Kept S w (put2 w q i v) :=
  ((Kept.refl S w).setCell (p := ⟨q, i * 2, none⟩) hS _).setCell (p := ⟨q, i * 2 + 1, none⟩) hS _
theorem dunmap_no {base : Nat} {w : World} {gb gp gz gr : Nat} {d : DMg} (h : DMs base w gb gp gz gr d) (leb : Int) (hn : ¬ (0 ≤ leb ∧ leb < d.ls.length)) :
    Calls Tryz.prog 34 #[.pointer (some ⟨d.p, 0, none⟩), .int .i64 leb] w fun e w' => e = .returned (.int .i64 22) ∧ w = w' := by
  have k1 := dnone_any h leb
  rw [decide_eq_true hn] at k1
  clear h hn
  go_enter Tryz.func34, Tryz.ntmps34
  go_wp2_with (go_at_call 73; refine k1.mono ?_; rintro e w1 ⟨rfl, rfl⟩)
  go_ret
  exact ⟨rfl, rfl⟩
set_option maxHeartbeats 1000000 in
theorem dunmap_go {base : Nat} {w : World} {gb gp gz gr : Nat} {d : DMg} (h : DMs base w gb gp gz gr d) (i : Nat) (o : LB) (ho : d.ls[i]? = some o) :
    Calls Tryz.prog 34 #[.pointer (some ⟨d.p, 0, none⟩), .int .i64 (i : Nat)] w fun e w' => e = .returned (.int .i64 0) ∧ DMs base w' gb gp gz gr (d.put i noLB) ∧ Kept (DFoot d) w w' := by
  have hil := (List.getElem?_eq_some_iff.1 ho).1
  have k1 := dnone_any h (i : Nat)
  rw [decide_eq_false (by omega)] at k1
  have c4 := h.cells.2.2.2.2
  obtain ⟨a0, a1⟩ := h.at ho
  have fz := h.row.frozen
  have hi1 : (i : Int) < (d.ls.length : Int) := by omega
  have HF : Hid (DMs base (put2 w d.q i (.slice none 0 0)) gb gp gz gr (d.put i noLB) ∧ Kept (DFoot d) w (put2 w d.q i (.slice none 0 0))) := by
    refine ⟨h.wrote ho (put2_row (x := noLB) h.row ho) (DL.nil _ _) (put2_kept _ _ _ _ _ (.inl rfl)) (fun k hk => by cases hk), put2_kept _ _ _ _ _ (.inl rfl)⟩
  unfold put2 at HF
  clear h hil ho
  go_enter Tryz.func34, Tryz.ntmps34
  have i0 : ¬ (i : Int) < 0 := by omega
  go_wp2_with (go_at_call 73; refine k1.mono ?_; rintro e w1 ⟨rfl, rfl⟩)
  go_ret
  exact ⟨rfl, HF.out.1, HF.out.2⟩
set_option maxHeartbeats 1000000 in
theorem dread_page {base : Nat} {w : World} {gb gp gz gr : Nat} {d : DMg} (h : DMs base w gb gp gz gr d) (hp : 2 ≤ gp ∧ gp ≤ 64) (i k : Nat) (o : LB) (ho : d.ls[i]? = some o) (l : List Nat) (hl : o.pg[k]? = some l) (hk : k + 2 < gp) :
    Calls Tryz.prog 42 #[.pointer (some ⟨d.p, 0, none⟩), .int .i64 (i : Nat), .int .i64 (k : Nat)] w fun e w' => ∃ a cap, e = .returned (.tuple #[.slice a l.length cap, .int .i64 0]) ∧ BRow w a l ∧ (∀ y ∈ l, y < 256) ∧ w = w' := by
  have hil := (List.getElem?_eq_some_iff.1 ho).1
  have hkl := (List.getElem?_eq_some_iff.1 hl).1
  have k1 := dnone_any h (i : Nat)
  rw [decide_eq_false (by omega)] at k1
  have k2 := dmax_any h hp
  have c4 := h.cells.2.2.2.2
  obtain ⟨a0, a1⟩ := h.at ho
  obtain ⟨g, cap, u, e1, hu, hP⟩ := (h.each o (List.mem_of_getElem? ho)).page hl
  rw [e1] at a0
  obtain ⟨a, ca, rfl, hrow⟩ := hP.form
  have HR : Hid (BRow w a l ∧ ∀ y ∈ l, y < 256) := ⟨hrow, hP.lt⟩
  have hi1 : (i : Int) < (d.ls.length : Int) := by omega
  have hk1 : (k : Int) < (o.pg.length : Int) := by omega
  have hk2 : ¬ (gp : Int) - 2 ≤ (k : Int) := by omega
  obtain ⟨n, hn⟩ : ∃ n, n = o.pg.length := ⟨_, rfl⟩
  obtain ⟨ln, hln⟩ : ∃ n, n = l.length := ⟨_, rfl⟩
  rw [← hn] at a0 hk1
  rw [← hln] at hu ⊢
  clear h hil ho hkl hl hP hrow e1 hn hln hp hk
  go_enter Tryz.func42, Tryz.ntmps42
  have i0 : ¬ (i : Int) < 0 := by omega
  have k0 : ¬ (k : Int) < 0 := by omega
  go_wp2_with (first
    | (go_at_call 73; refine k1.mono ?_; rintro e w1 ⟨rfl, rfl⟩)
    | (go_at_call 39; refine k2.mono ?_; rintro e w1 ⟨rfl, rfl⟩))
  refine bodyPost_ret (v := .tuple #[.slice a ln ca, .int .i64 0]) ?_ rfl ⟨a, ca, rfl, HR.out.1, HR.out.2, rfl⟩
  simp [results, Tryz.f42, go_sem]
set_option maxHeartbeats 1000000 in
theorem dread_blank {base : Nat} {w : World} {gb gp gz gr : Nat} {d : DMg} (h : DMs base w gb gp gz gr d) (hp : 2 ≤ gp ∧ gp ≤ 64) (hz : gz ≤ 512) (i k : Nat) (o : LB) (ho : d.ls[i]? = some o) (hl : o.pg.length ≤ k) (hk : k + 2 < gp) :
    Calls Tryz.prog 42 #[.pointer (some ⟨d.p, 0, none⟩), .int .i64 (i : Nat), .int .i64 (k : Nat)] w fun e w' => ∃ a cap, e = .returned (.tuple #[.slice a gz cap, .int .i64 0]) ∧ BRow w' a (List.replicate gz 255) ∧ Below w.heap.size w w' := by
  have hil := (List.getElem?_eq_some_iff.1 ho).1
  have k1 := dnone_any h (i : Nat)
  rw [decide_eq_false (by omega)] at k1
  have k2 := dmax_any h hp
  have k3 := Hd.ref_fill none 0 [] gz (by omega) w (by decide) (.inl rfl)
  have c4 := h.cells.2.2.2.2
  have c2 := h.cells.2.2.1
  obtain ⟨a0, a1⟩ := h.at ho
  obtain ⟨a, cap, e1⟩ := (h.each o (List.mem_of_getElem? ho)).form
  rw [e1] at a0
  have hi1 : (i : Int) < (d.ls.length : Int) := by omega
  have hk1 : ¬ (k : Int) < (o.pg.length : Int) := by omega
  have hk2 : ¬ (gp : Int) - 2 ≤ (k : Int) := by omega
  have HFl : Hid (Hd.fillL [] gz = List.replicate gz 255) := (by simp [Hd.fillL] : Hd.fillL [] gz = List.replicate gz 255)
  obtain ⟨n, hn⟩ : ∃ n, n = o.pg.length := ⟨_, rfl⟩
  rw [← hn] at a0 hk1
  clear h hil ho hl e1 hn hp hk
  go_enter Tryz.func42, Tryz.ntmps42
  have i0 : ¬ (i : Int) < 0 := by omega
  have k0 : ¬ (k : Int) < 0 := by omega
  go_wp2_with (first
    | (go_at_call 73; refine k1.mono ?_; rintro e w1 ⟨rfl, rfl⟩)
    | (go_at_call 39; refine k2.mono ?_; rintro e w1 ⟨rfl, rfl⟩)
    | (go_at_call 74; refine Calls.mono k3 ?_; rintro e w2 ⟨v, rfl, ho2, hb2⟩; rw [HFl.out] at ho2; obtain ⟨a2, c2', e2, hr2, _⟩ := owns_row (l := List.replicate gz 255) ho2; rw [List.length_replicate] at e2; subst e2; have HR : Hid (BRow w2 a2 (List.replicate gz 255) ∧ Below w.heap.size w w2) := ⟨hr2, hb2⟩; clear ho2 hr2 hb2))
  refine bodyPost_ret (v := .tuple #[.slice a2 gz c2', .int .i64 0]) ?_ rfl ⟨a2, c2', rfl, HR.out.1, HR.out.2⟩
  simp [results, Tryz.f42, go_sem]
end Go.Proofs.YtfcmkkkdccnhgaaGreatDoor
namespace Go.Proofs.YtfcmkkkdccnhgaaGreatDoor
open Go.RowKit
set_option maxRecDepth 10000

theorem pgrown_kept {w w' : World} {row : Option Nat} (hg : w.grownBy w' row) : Kept (fun k => row = some k) w w' :=
  ⟨hg.os, hg.tape, hg.output, hg.size, fun k hk hn => hg.block k hk (fun e => hn e.symm)⟩
theorem pset_kept (w : World) (q i : Nat) (v : Value) : Kept (fun k => k = q) w (w.setCell ⟨q, i, none⟩ v) := (Kept.refl (fun k => k = q) w).setCell (p := ⟨q, i, none⟩) rfl v
/-- The list of a logical block's pages grew by one, and its cell is set. -/
theorem DMs.pushed {base : Nat} {w W : World} {gb gp gz gr : Nat} {d : DMg} (h : DMs base w gb gp gz gr d) {i : Nat} {o : LB} (ho : d.ls[i]? = some o) {u : Value} {l : List Nat} (hu : DP base w u l) {g cap : Nat}
    (hg : w.grownBy W o.v.ownBlock) (hown : W.ownsRow base 36 1 (.slice (some ⟨g, 0, none⟩) (o.pg.length + 1) cap) (o.pg.length + 1) (o.us ++ [u])) (hat : o.v.ownBlock = some g ∨ g = w.heap.size) :
    (W.cell? ⟨d.q, i * 2, none⟩ = some o.v ∧ W.frozen? ⟨d.q, i * 2, none⟩ = false) ∧ DMs base (W.setCell ⟨d.q, i * 2, none⟩ (.slice (some ⟨g, 0, none⟩) (o.pg.length + 1) cap)) gb gp gz gr (d.put i ⟨.slice (some ⟨g, 0, none⟩) (o.pg.length + 1) cap, o.us ++ [u], o.pg ++ [l]⟩) ∧ Kept (DFoot d) w (W.setCell ⟨d.q, i * 2, none⟩ (.slice (some ⟨g, 0, none⟩) (o.pg.length + 1) cap)) := by
  have hoL := h.each o (List.mem_of_getElem? ho)
  have hk1 := pgrown_kept hg
  have hil := (List.getElem?_eq_some_iff.1 ho).1
  have nq : ¬ (o.v.ownBlock = some d.q) := fun e => (pown_type hoL.own e).ne h.row (by decide) rfl
  have hrow := h.row.kept hk1 nq
  have hlen : (d.ls.flatMap lbCells).length = d.ls.length * 2 := flat_len lbCells 2 lb_len d.ls
  have hr2 : Row (W.setCell ⟨d.q, i * 2, none⟩ (.slice (some ⟨g, 0, none⟩) (o.pg.length + 1) cap)) d.q ((d.ls.set i ⟨.slice (some ⟨g, 0, none⟩) (o.pg.length + 1) cap, o.us ++ [u], o.pg ++ [l]⟩).flatMap lbCells) 80 := by
    rw [lb_set0 _ _ _ _ ho]
    exact hrow.set (i := i * 2) _ (by omega)
  have hgq : g ≠ d.q := fun e => by
    have := (pown_type hown (k := g) rfl)
    exact this.ne hrow (by decide) e
  have hkS : Kept (fun k => k = d.q ∨ o.v.ownBlock = some k) w (W.setCell ⟨d.q, i * 2, none⟩ (.slice (some ⟨g, 0, none⟩) (o.pg.length + 1) cap)) :=
    (hk1.mono fun _ e => .inr e).trans ((pset_kept W d.q (i * 2) _).mono fun _ e => .inl e)
  have u8far : ∀ k, Row w k [] 5 → ¬ (k = d.q ∨ o.v.ownBlock = some k) := fun k hr => by
    rintro (e | e)
    · exact hr.ne h.row (by decide) e
    · exact hr.ne (pown_type hoL.own e) (by decide) rfl
  have hoo := h.at ho
  refine ⟨⟨?_, hrow.frozen _⟩, h.wrote ho hr2 ⟨?_, ?_⟩ hkS ?_, hkS.mono (dfoot_sub ho)⟩
  · have := hrow.cell (i := i * 2) (v := o.v) (by
      have := flat_get lbCells 2 lb_len 0 (by omega) d.ls i o ho
      rw [Nat.add_zero] at this
      rw [this]
      rfl)
    exact this
  · have := pown_kept hown (pset_kept W d.q (i * 2) (.slice (some ⟨g, 0, none⟩) (o.pg.length + 1) cap)) (fun k hk e => by
      cases hk
      exact hgq e)
    simpa using this
  · intro j v dd hv hd
    have hl1 := hoL.own.1
    by_cases hj : j < o.pg.length
    · rw [List.getElem?_append_left (by omega)] at hv
      rw [List.getElem?_append_left hj] at hd
      exact (hoL.each j v dd hv hd).kept hkS u8far
    · have hje : j = o.pg.length := by
        have := (List.getElem?_eq_some_iff.1 hd).1
        simp at this
        omega
      subst hje
      rw [List.getElem?_append_right (by omega)] at hv hd
      simp at hd
      have hv' : u = v := by
        rw [show o.pg.length - o.us.length = 0 by omega] at hv
        simpa using hv
      subst hv' hd
      exact hu.kept hkS u8far
  · intro k hk
    cases hk
    rcases hat with e | e
    · exact .inl e
    · exact .inr (by show w.heap.size ≤ g; omega)
end Go.Proofs.YtfcmkkkdccnhgaaGreatDoor
