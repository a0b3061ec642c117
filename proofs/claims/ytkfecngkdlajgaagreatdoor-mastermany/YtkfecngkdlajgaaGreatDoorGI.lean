/-
  The chip in memory: rows of cells, what stays while others are written, bytes, pages, blocks.
  What the chip's inner functions answer: view, reach, has.
  What step and operate do: an operation begins; its fault.
  What operate does: an operation begins.
  What lay, program and erase do with a block's pages.
-/
import Derived.Test.YtkfecngkdlajgaaGreatDoorRows
import Derived.WalkKit
import Derived.WalkSpells
import Derived.WalkLawsBesides
import Derived.Laws.BytesArg
import Derived.BigQuiet
namespace Go.Proofs.YtkfecngkdlajgaaGreatDoor
open Go.RowKit
set_option maxRecDepth 10000

theorem ret_int {k : IntKind} {a b : Int} (h : a = b) : Ending.returned (.int k a) = .returned (.int k b) := by rw [h]
theorem ret_bool {a b : Bool} (h : a = b) : Ending.returned (.bool a) = .returned (.bool b) := by rw [h]
/-- A slice's elements, as they lie: it is empty, or its address leads to the bytes l. -/
def BRow (w : World) (a : Option Addr) (l : List Nat) : Prop :=
  l = [] ∨ ∃ b off, a = some ⟨b, off, none⟩ ∧ ∀ i, i < l.length → w.cell? ⟨b, off + i, none⟩ = some (.int .u8 ((l.getD i 0 : Nat) : Int))
/-- The cell of a byte. -/
def u8v (x : Nat) : Value := .int .u8 (x : Int)

/-- The call that began in w has made the bytes l, in new memory: v leads to them. -/
def Own (w w' : World) (v : Value) (l : List Nat) : Prop :=
  w'.ownsRow w.heap.size 5 1 v l.length (l.map u8v) ∧ Below w.heap.size w w'

theorem BRow.later {w w' : World} {a : Option Addr} {l : List Nat} (h : BRow w a l) (hb : Below w.heap.size w w') : BRow w' a l := by
  rcases h with h | ⟨b, off, ha, hc⟩
  · exact .inl h
  · exact .inr ⟨b, off, ha, fun i hi => by
      have h1 := hc i hi
      have h2 := World.block_lt_of_cell? w _ h1
      rw [hb.cell (p := ⟨b, off + i, none⟩) h2]
      exact h1⟩

theorem owns_later {w w' : World} {base e size n : Nat} {v : Value} {xs : List Value} (h : w.ownsRow base e size v n xs) (hb : Below w.heap.size w w') : w'.ownsRow base e size v n xs := by
  refine ⟨h.1, ?_⟩
  rcases h.2 with hn | ⟨g, cap, cur, rfl, hbg, hgg, rest⟩
  · exact .inl hn
  · refine .inr ⟨g, cap, cur, rfl, hbg, ?_, rest⟩
    rw [hb.block g (Array.getElem?_eq_some_iff.1 hgg).1]
    exact hgg

/-- What is owned can be read. -/
theorem owns_row {w : World} {base : Nat} {v : Value} {l : List Nat} (h : w.ownsRow base 5 1 v l.length (l.map u8v)) :
    ∃ a cap, v = .slice a l.length cap ∧ BRow w a l ∧ l.length ≤ cap ∧ cap ≤ maxLen := by
  rcases h.2 with ⟨rfl, hn⟩ | ⟨g, cap, cur, rfl, hbg, hgg, hnc, hcm, hcs, htake⟩
  · have : l = [] := List.eq_nil_of_length_eq_zero hn
    subst this
    exact ⟨none, 0, rfl, .inl rfl, Nat.le_refl _, by decide⟩
  · refine ⟨_, cap, rfl, .inr ⟨g, 0, rfl, fun i hi => ?_⟩, hnc, hcm⟩
    have := h.cellAt i (by simpa using hi)
    simp only [Nat.zero_add]
    rw [this]
    simp [u8v, hi, List.getD]

theorem Below.after {w w1 w2 : World} (h : Below w.heap.size w w1) (h2 : Below w1.heap.size w1 w2) : Below w.heap.size w w2 :=
  h.trans (h2.mono h.size)

theorem Own.row {w w' : World} {v : Value} {l : List Nat} (h : Own w w' v l) : ∃ a cap, v = .slice a l.length cap ∧ BRow w' a l ∧ l.length ≤ cap ∧ cap ≤ maxLen := owns_row h.1

theorem info8 : (Tryz.prog.info? 5).map (fun i => (i.zero, i.size, i.bytes)) = some (some (.int .u8 0), 1, 1) := by kernel_rfl

/-- The bytes l of a row, cell by cell, as the laws on append and copy ask for them. -/
theorem BRow.cells {w : World} {b off : Nat} {l : List Nat} (hc : ∀ i, i < l.length → w.cell? ⟨b, off + i, none⟩ = some (.int .u8 ((l.getD i 0 : Nat) : Int))) :
    ∀ j u, (l.map u8v)[j]? = some u → w.cell? ((⟨b, off, none⟩ : Addr).add j) = some u := by
  intro j u hj
  have hjl : j < l.length := by
    have := (List.getElem?_eq_some_iff.1 hj).1
    simpa using this
  have := hc j hjl
  have hu : u = u8v (l.getD j 0) := by
    simp [hjl] at hj
    simp [← hj, List.getD, hjl]
  have e : (⟨b, off, none⟩ : Addr).add j = ⟨b, off + j, none⟩ := by unfold Addr.add; split <;> simp_all
  rw [e, this, hu]
  rfl
theorem u8v_one (l : List Nat) : ∀ u ∈ l.map u8v, u.oneCell' = true := by
  intro u hu
  simp only [List.mem_map] at hu
  obtain ⟨x, _, rfl⟩ := hu
  rfl
/-- The string of bytes. -/
def bstr (l : List Nat) : ByteArray := strOfNums (l.map fun x : Nat => (x : Int))
theorem bstr_inj {l m : List Nat} (hl : ∀ x ∈ l, x < 256) (hm : ∀ x ∈ m, x < 256) : (bstr l).data.toList = (bstr m).data.toList ↔ l = m := by
  constructor
  · intro h
    unfold bstr at h
    rw [strOfNums_data, strOfNums_data, List.map_map, List.map_map] at h
    have key : ∀ (a b : List Nat), (∀ x ∈ a, x < 256) → (∀ x ∈ b, x < 256) → a.map ((fun n : Int => UInt8.ofNat n.toNat) ∘ fun x : Nat => (x : Int)) = b.map ((fun n : Int => UInt8.ofNat n.toNat) ∘ fun x : Nat => (x : Int)) → a = b := by
      intro a
      induction a with
      | nil => intro b _ _ h; cases b with
        | nil => rfl
        | cons y b => simp at h
      | cons x a ih =>
        intro b ha hb h
        cases b with
        | nil => simp at h
        | cons y b =>
          simp only [List.map_cons, List.cons.injEq, Function.comp_apply, Int.toNat_natCast] at h
          have hx := ha x (by simp)
          have hy := hb y (by simp)
          have e : x = y := by
            have := congrArg UInt8.toNat h.1
            simpa [Nat.mod_eq_of_lt hx, Nat.mod_eq_of_lt hy] using this
          rw [e, ih b (fun z hz => ha z (by simp [hz])) (fun z hz => hb z (by simp [hz])) h.2]
    exact key l m hl hm h
  · rintro rfl; rfl

theorem bstr_eq {l m : List Nat} (hl : ∀ x ∈ l, x < 256) (hm : ∀ x ∈ m, x < 256) : ((bstr l).toList == (bstr m).toList) = decide (l = m) := by
  rw [Bool.eq_iff_iff, beq_iff_eq, decide_eq_true_iff, ByteArray.toList_eq, ByteArray.toList_eq]
  exact bstr_inj hl hm

theorem conv_row {w : World} {a : Option Addr} {l : List Nat} (cap : Nat) (hr : BRow w a l) :
    (convert 56 9 (.slice a l.length cap)).run Tryz.prog w = .ok (.string (bstr l)) w := by
  rcases hr with rfl | ⟨b, off, rfl, hc⟩
  · rw [run_convert_bytes_string w 56 9 5 a _ cap Tryz.underlying56 Tryz.underlying5 Tryz.underlying9]
    cases a with
    | none => simp [Conv.bytesToString, bstr, strOfNums]; rfl
    | some a => 
      rw [List.length_nil, run_bytesToString w a 0 cap [] (by simp [loadCells, loadCellsFrom])]
      rfl
  · refine run_convert_bytes_arg w 56 5 Tryz.underlying56 Tryz.underlying5 b off l.length cap (l.map fun x : Nat => (x : Int)) (by simp) (fun i hi => ?_) 9 Tryz.underlying9
    rw [hc i hi]
    simp [List.getD, hi]

/-- A block whose cells begin with cs. -/
def Row (W : World) (B : Nat) (cs : List Value) (t : TypeId) : Prop := ∃ rest : List Value, W.heap[B]? = some (.cells (cs ++ rest).toArray t (0, 0))
theorem Row.lt {W : World} {B : Nat} {cs : List Value} {t : TypeId} (h : Row W B cs t) : B < W.heap.size := by
  obtain ⟨r, h⟩ := h; exact (Array.getElem?_eq_some_iff.1 h).1
theorem Row.cell {W : World} {B i : Nat} {cs : List Value} {t : TypeId} {v : Value} (h : Row W B cs t) (hi : cs[i]? = some v) : W.cell? ⟨B, i, none⟩ = some v := by
  obtain ⟨r, h⟩ := h
  have hlt := (List.getElem?_eq_some_iff.1 hi).1
  simp only [World.cell?, h]
  simp [List.getElem?_append_left hlt, hi]
theorem Row.frozen {W : World} {B : Nat} {cs : List Value} {t : TypeId} (h : Row W B cs t) (i : Nat) : W.frozen? ⟨B, i, none⟩ = false := by
  obtain ⟨r, h⟩ := h
  simp [World.frozen?, h]
theorem Row.set {W : World} {B i : Nat} {cs : List Value} {t : TypeId} (v : Value) (h : Row W B cs t) (hi : i < cs.length) : Row (W.setCell ⟨B, i, none⟩ v) B (cs.set i v) t := by
  obtain ⟨r, h⟩ := h
  obtain ⟨hlt, hk⟩ := Array.getElem?_eq_some_iff.1 h
  refine ⟨r, ?_⟩
  show (W.heap.modify B _)[B]? = _
  rw [Array.getElem?_eq_getElem (by rw [Array.size_modify]; exact hlt), Array.getElem_modify_self, hk]
  simp [List.set_append_left _ _ hi]
theorem Row.same {W W' : World} {B : Nat} {cs : List Value} {t : TypeId} (h : Row W B cs t) (e : W'.heap[B]? = W.heap[B]?) : Row W' B cs t := by
  obtain ⟨r, h⟩ := h; exact ⟨r, e.trans h⟩
theorem Row.other {W : World} {B : Nat} {cs : List Value} {t : TypeId} (p : Addr) (v : Value) (h : Row W B cs t) (hne : B ≠ p.block) : Row (W.setCell p v) B cs t := h.same (Below.heap_setCell _ _ _ B hne)
theorem Row.setNew {w W : World} {B : Nat} {cs : List Value} {t : TypeId} (p : Addr) (v : Value) (h : Row W B cs t) (hB : B < w.heap.size) (hp : w.heap.size ≤ p.block) : Row (W.setCell p v) B cs t := h.other p v (by omega)
theorem Row.alloc {W : World} {B : Nat} {cs : List Value} {t : TypeId} (h : Row W B cs t) (o : Obj) : Row (W.alloc o) B cs t := h.same (Below.heap_alloc _ _ _ h.lt)
theorem Row.drew {W : World} {B : Nat} {cs : List Value} {t : TypeId} (h : Row W B cs t) : Row W.drew B cs t := h
theorem Row.drewN {W : World} {B : Nat} {cs : List Value} {t : TypeId} (h : Row W B cs t) (n : Nat) : Row (W.drewN n) B cs t := h
theorem Row.later {W W' : World} {B : Nat} {cs : List Value} {t : TypeId} (h : Row W B cs t) (hb : Below W.heap.size W W') : Row W' B cs t := h.same (hb.block B h.lt)
theorem Row.ne {W : World} {B C : Nat} {cs ds : List Value} {t u : TypeId} (h : Row W B cs t) (g : Row W C ds u) (hn : t ≠ u) : B ≠ C := by
  rintro rfl
  obtain ⟨r, h⟩ := h
  obtain ⟨s, g⟩ := g
  have := h.symm.trans g
  simp at this
  exact hn this.2
theorem Row.new (W : World) (cs : List Value) (t : TypeId) : Row (W.alloc (.cells cs.toArray t)) W.heap.size cs t := ⟨[], by show (W.heap.push _)[W.heap.size]? = _; simp⟩
theorem Row.of_owns {W : World} {base size n : Nat} {t : TypeId} {v : Value} {xs : List Value} (h : W.ownsRow base t size v n xs) (hn : 0 < n) : ∃ g cap, v = .slice (some ⟨g, 0, none⟩) n cap ∧ n ≤ cap ∧ cap ≤ maxLen ∧ base ≤ g ∧ Row W g xs t := by
  rcases h.2 with ⟨rfl, hn'⟩ | ⟨g, cap, cur, rfl, hbg, hgg, hnc, hcm, hcs, htake⟩
  · omega
  · refine ⟨g, cap, rfl, hnc, hcm, hbg, cur.toList.drop (n * size), ?_⟩
    rw [hgg, ← htake, List.take_append_drop]

/-- But for the blocks S all that there was is as it was. -/
structure Kept (S : Nat → Prop) (w w' : World) : Prop where
  os : w'.os = w.os
  tape : w'.tape = w.tape
  output : w'.output = w.output
  size : w.heap.size ≤ w'.heap.size
  block : ∀ k, k < w.heap.size → ¬ S k → w'.heap[k]? = w.heap[k]?
theorem Kept.refl (S : Nat → Prop) (w : World) : Kept S w w := ⟨rfl, rfl, rfl, Nat.le_refl _, fun _ _ _ => rfl⟩
theorem Kept.trans {S : Nat → Prop} {a b c : World} (h : Kept S a b) (k : Kept S b c) : Kept S a c :=
  ⟨k.os.trans h.os, k.tape.trans h.tape, k.output.trans h.output, Nat.le_trans h.size k.size, fun i hi hs => (k.block i (Nat.lt_of_lt_of_le hi h.size) hs).trans (h.block i hi hs)⟩
theorem Kept.mono {S T : Nat → Prop} {a b : World} (h : Kept S a b) (hs : ∀ k, S k → T k) : Kept T a b := ⟨h.os, h.tape, h.output, h.size, fun k hk hn => h.block k hk (fun x => hn (hs k x))⟩
theorem Kept.of_below {S : Nat → Prop} {a b : World} (h : Below a.heap.size a b) : Kept S a b := ⟨h.os, h.tape, h.output, h.size, fun k hk _ => h.block k hk⟩
theorem Kept.later {S : Nat → Prop} {a b c : World} (h : Kept S a b) (k : Below b.heap.size b c) : Kept S a c := h.trans (.of_below k)
theorem Kept.setCell {S : Nat → Prop} {a w : World} (h : Kept S a w) {p : Addr} (hp : S p.block) (u : Value) : Kept S a (w.setCell p u) :=
  h.trans ⟨rfl, rfl, rfl, by simp [World.setCell], fun k _ hn => Below.heap_setCell _ _ _ _ (fun e => hn (e ▸ hp))⟩
theorem Kept.setNew {S : Nat → Prop} {a w : World} (h : Kept S a w) {p : Addr} (hp : a.heap.size ≤ p.block) (u : Value) : Kept S a (w.setCell p u) :=
  ⟨h.os, h.tape, h.output, by have := h.size; simpa [World.setCell] using this, fun k hk hn => (Below.heap_setCell _ _ _ _ (by omega)).trans (h.block k hk hn)⟩
theorem Kept.alloc {S : Nat → Prop} {a w : World} (h : Kept S a w) (o : Obj) : Kept S a (w.alloc o) := h.trans ⟨rfl, rfl, rfl, by simp, fun k hk _ => Below.heap_alloc _ _ _ hk⟩
theorem Kept.drew {S : Nat → Prop} {a w : World} (h : Kept S a w) : Kept S a w.drew := ⟨h.os, h.tape, h.output, h.size, h.block⟩
theorem Kept.drewN {S : Nat → Prop} {a w : World} (h : Kept S a w) (n : Nat) : Kept S a (w.drewN n) := ⟨h.os, h.tape, h.output, h.size, h.block⟩
theorem Kept.below {S : Nat → Prop} {B : Nat} {a b : World} (h : Kept S a b) (hB : B ≤ a.heap.size) (hs : ∀ k, S k → B ≤ k) : Below B a b :=
  ⟨h.os, h.tape, h.output, h.size, fun k hk => h.block k (by omega) (fun x => by have := hs k x; omega)⟩
theorem Row.kept {S : Nat → Prop} {W W' : World} {B : Nat} {cs : List Value} {t : TypeId} (h : Row W B cs t) (hk : Kept S W W') (hn : ¬ S B) : Row W' B cs t := h.same (hk.block B h.lt hn)

theorem below_new (w : World) (o : Obj) : Below w.heap.size w (w.alloc o) := (Below.refl _ w).alloc (Nat.le_refl _) _
theorem below_drawn (w : World) (n : Nat) : Below w.heap.size w (w.drewN n) := by
  induction n with
  | zero => exact Below.refl _ _
  | succ n ih => exact (ih.drew)

/-- Cells laid one behind the other, n to each. -/
theorem flat_len {α : Type} (f : α → List Value) (n : Nat) (hf : ∀ x, (f x).length = n) : ∀ l : List α, (l.flatMap f).length = l.length * n
  | [] => by simp
  | x :: l => by rw [List.flatMap_cons, List.length_append, flat_len f n hf l, hf, List.length_cons, Nat.succ_mul, Nat.add_comm]
theorem flat_get {α : Type} (f : α → List Value) (n : Nat) (hf : ∀ x, (f x).length = n) (k : Nat) (hk : k < n) : ∀ (l : List α) (i : Nat) (x : α), l[i]? = some x → (l.flatMap f)[i * n + k]? = (f x)[k]?
  | [], i, x, h => by simp at h
  | y :: l, 0, x, h => by
    simp at h; subst h
    rw [List.flatMap_cons, Nat.zero_mul, Nat.zero_add, List.getElem?_append_left (by rw [hf]; exact hk)]
  | y :: l, i + 1, x, h => by
    rw [List.flatMap_cons, List.getElem?_append_right (by rw [hf, Nat.succ_mul]; omega), hf, show (i + 1) * n + k - n = i * n + k by rw [Nat.succ_mul]; omega]
    exact flat_get f n hf k hk l i x (by simpa using h)
theorem flat_set {α : Type} (f : α → List Value) (n : Nat) (hf : ∀ x, (f x).length = n) (k : Nat) (hk : k < n) (v : Value) (x' : α) : ∀ (l : List α) (i : Nat) (x : α), l[i]? = some x → (f x).set k v = f x' → (l.flatMap f).set (i * n + k) v = (l.set i x').flatMap f
  | [], i, x, h, _ => by simp at h
  | y :: l, 0, x, h, e => by
    simp at h; subst h
    rw [List.flatMap_cons, Nat.zero_mul, Nat.zero_add, List.set_append_left _ _ (by rw [hf]; exact hk), e, List.set_cons_zero, List.flatMap_cons]
  | y :: l, i + 1, x, h, e => by
    rw [List.flatMap_cons, List.set_append_right _ _ (by rw [hf, Nat.succ_mul]; omega), hf, show (i + 1) * n + k - n = i * n + k by rw [Nat.succ_mul]; omega, List.set_cons_succ, List.flatMap_cons]
    rw [flat_set f n hf k hk v x' l i x (by simpa using h) e]

/-- A page: its state, and its data. -/
structure Pg where
  st : Int
  data : List Nat
/-- A block: where its pages stand, and what is known of it. -/
structure Bk where
  r : Nat
  cap : Nat
  pgs : List Pg
  next : Int
  erases : Int
  bad : Bool
/-- A fault of a plan. -/
structure Flt where
  num : Int
  kind : Int
  torn : Int
/-- A chip. -/
structure CS where
  p : Nat
  q : Nat
  qcap : Nat
  gb : Nat
  gp : Nat
  gz : Nat
  gr : Nat
  bks : List Bk
  on : Bool
  ops : Int
  wrong : Int
  steps : Int
  fs : List Flt
def pgCells (p : Pg) : List Value := [.int .i64 p.st, .string (bstr p.data)]
def bkCells (b : Bk) : List Value := [.slice (some ⟨b.r, 0, none⟩) b.pgs.length b.cap, .int .i64 b.next, .int .i64 b.erases, .bool b.bad]
def flCells (f : Flt) : List Value := [.int .i64 f.num, .int .i64 f.kind, .int .i64 f.torn]
def csCells (c : CS) (fa : Option Addr) (fc : Nat) : List Value :=
  [.int .i64 c.gb, .int .i64 c.gp, .int .i64 c.gz, .int .i64 c.gr, .slice (some ⟨c.q, 0, none⟩) c.bks.length c.qcap, .bool c.on, .int .i64 c.ops, .int .i64 c.wrong, .slice fa c.fs.length fc, .int .i64 c.steps]
theorem pg_len (p : Pg) : (pgCells p).length = 2 := rfl
theorem bk_len (b : Bk) : (bkCells b).length = 4 := rfl
theorem fl_len (f : Flt) : (flCells f).length = 3 := rfl
/-- Faults, as they lie. -/
def FRow (w : World) (a : Option Addr) (l : List Flt) : Prop :=
  l = [] ∨ ∃ b off, a = some ⟨b, off, none⟩ ∧ ∀ i f, l[i]? = some f → w.cell? ⟨b, off + i * 3, none⟩ = some (.int .i64 f.num) ∧ w.cell? ⟨b, off + i * 3 + 1, none⟩ = some (.int .i64 f.kind) ∧ w.cell? ⟨b, off + i * 3 + 2, none⟩ = some (.int .i64 f.torn)
/-- The blocks of memory that are the chip's own to write. -/
def CS.foot (c : CS) (k : Nat) : Prop := k = c.p ∨ k = c.q ∨ k ∈ c.bks.map Bk.r
end Go.Proofs.YtkfecngkdlajgaaGreatDoor
namespace Go.Proofs.YtkfecngkdlajgaaGreatDoor
open Go.RowKit
set_option maxRecDepth 10000

theorem within_any (n a b : Int) (w : World) : Calls Tryz.prog 81 #[.int .i64 n, .int .i64 a, .int .i64 b] w fun e w' => e = .returned (.bool (decide (a ≤ n ∧ n ≤ b))) ∧ w = w' := by
  by_cases h1 : a ≤ n
  · go_enter Tryz.func81, Tryz.ntmps81
    go_wp2
    go_ret
    exact ⟨by simp [h1], rfl⟩
  · go_enter Tryz.func81, Tryz.ntmps81
    go_wp2
    go_ret
    exact ⟨by simp; omega, rfl⟩

theorem view_no (p q m cap : Nat) (n : Int) (w : World) (hc : w.cell? ⟨p, 4, none⟩ = some (.slice (some ⟨q, 0, none⟩) m cap)) (hn : n < 0 ∨ (m : Int) ≤ n) :
    Calls Tryz.prog 162 #[.pointer (some ⟨p, 0, none⟩), .int .i64 n] w fun e w' => e = .returned (.pointer none) ∧ w = w' := by
  by_cases h0 : n < 0
  · go_enter Tryz.func162, Tryz.ntmps162
    go_wp2
    go_ret
    exact ⟨rfl, rfl⟩
  · have h1 : (m : Int) ≤ n := by omega
    clear hn
    go_enter Tryz.func162, Tryz.ntmps162
    go_wp2
    go_ret
    exact ⟨rfl, rfl⟩
theorem view_yes (p q m cap i : Nat) (w : World) (hc : w.cell? ⟨p, 4, none⟩ = some (.slice (some ⟨q, 0, none⟩) m cap)) (hi : i < m) :
    Calls Tryz.prog 162 #[.pointer (some ⟨p, 0, none⟩), .int .i64 i] w fun e w' => e = .returned (.pointer (some ⟨q, i * 4, none⟩)) ∧ w = w' := by
  have h0 : ¬ (i : Int) < 0 := by omega
  have h1 : ¬ (m : Int) ≤ (i : Int) := by omega
  have h2 : (i : Int) < (m : Int) := by omega
  go_enter Tryz.func162, Tryz.ntmps162
  go_wp2
  go_ret
  exact ⟨rfl, rfl⟩
theorem reach_off (p q m cap : Nat) (n : Int) (w : World) (hc : w.cell? ⟨p, 4, none⟩ = some (.slice (some ⟨q, 0, none⟩) m cap)) (ho : w.cell? ⟨p, 5, none⟩ = some (.bool false)) :
    Calls Tryz.prog 122 #[.pointer (some ⟨p, 0, none⟩), .int .i64 n] w fun e w' => e = .returned (.tuple #[.pointer none, .int .i64 6]) ∧ w = w' := by
  have hv : Calls Tryz.prog 162 #[.pointer (some ⟨p, 0, none⟩), .int .i64 n] w fun e w' => (∃ u, e = .returned (.pointer u)) ∧ w = w' := by
    by_cases h : n < 0 ∨ (m : Int) ≤ n
    · exact (view_no p q m cap n w hc h).mono fun e w' ⟨h1, h2⟩ => ⟨⟨_, h1⟩, h2⟩
    · obtain ⟨i, rfl⟩ : ∃ i : Nat, n = i := ⟨n.toNat, by omega⟩
      exact (view_yes p q m cap i w hc (by omega)).mono fun e w' ⟨h1, h2⟩ => ⟨⟨_, h1⟩, h2⟩
  go_enter Tryz.func122, Tryz.ntmps122
  go_wp2_with (go_at_call 162; refine hv.mono ?_; rintro e w' ⟨⟨u, rfl⟩, rfl⟩)
  go_ret2
  exact ⟨rfl, rfl⟩
theorem reach_no (p q m cap : Nat) (n : Int) (w : World) (hc : w.cell? ⟨p, 4, none⟩ = some (.slice (some ⟨q, 0, none⟩) m cap)) (ho : w.cell? ⟨p, 5, none⟩ = some (.bool true)) (hn : n < 0 ∨ (m : Int) ≤ n) :
    Calls Tryz.prog 122 #[.pointer (some ⟨p, 0, none⟩), .int .i64 n] w fun e w' => e = .returned (.tuple #[.pointer none, .int .i64 22]) ∧ w = w' := by
  have hv := view_no p q m cap n w hc hn
  clear hn
  go_enter Tryz.func122, Tryz.ntmps122
  go_wp2_with (go_at_call 162; refine hv.mono ?_; rintro e w' ⟨rfl, rfl⟩)
  go_ret2
  exact ⟨rfl, rfl⟩
theorem reach_yes (p q m cap i : Nat) (w : World) (hc : w.cell? ⟨p, 4, none⟩ = some (.slice (some ⟨q, 0, none⟩) m cap)) (ho : w.cell? ⟨p, 5, none⟩ = some (.bool true)) (hi : i < m) :
    Calls Tryz.prog 122 #[.pointer (some ⟨p, 0, none⟩), .int .i64 i] w fun e w' => e = .returned (.tuple #[.pointer (some ⟨q, i * 4, none⟩), .int .i64 0]) ∧ w = w' := by
  have hv := view_yes p q m cap i w hc hi
  go_enter Tryz.func122, Tryz.ntmps122
  go_wp2_with (go_at_call 162; refine hv.mono ?_; rintro e w' ⟨rfl, rfl⟩)
  go_ret2
  exact ⟨rfl, rfl⟩
theorem has_any (q o r len cap : Nat) (n : Int) (w : World) (hc : w.cell? ⟨q, o, none⟩ = some (.slice (some ⟨r, 0, none⟩) len cap)) :
    Calls Tryz.prog 123 #[.pointer (some ⟨q, o, none⟩), .int .i64 n] w fun e w' => e = .returned (.bool (decide (0 ≤ n ∧ n < (len : Int)))) ∧ w = w' := by
  by_cases h1 : 0 ≤ n
  · go_enter Tryz.func123, Tryz.ntmps123
    go_wp2
    go_ret
    exact ⟨by simp [h1], rfl⟩
  · go_enter Tryz.func123, Tryz.ntmps123
    go_wp2
    go_ret
    exact ⟨by simp; omega, rfl⟩
end Go.Proofs.YtkfecngkdlajgaaGreatDoor
namespace Go.Proofs.YtkfecngkdlajgaaGreatDoor
open Go.RowKit
set_option maxRecDepth 10000

/-- The operation's fault, and what is left of the plan. -/
def stepF (s : Int) : List Flt → Flt × List Flt
  | [] => (⟨0, 0, 0⟩, [])
  | f :: l => if f.num = s then (f, l) else (⟨0, 0, 0⟩, f :: l)
/-- What is known of the faults of a plan, as they lie. -/
structure Flts (w : World) (fa : Option Addr) (fc : Nat) (l : List Flt) : Prop where
  cap : l.length ≤ fc
  max : fc ≤ maxLen
  blk : l = [] ∨ ∃ b off, fa = some ⟨b, off, none⟩ ∧ ∃ cs, Row w b cs 66
  row : FRow w fa l
theorem Flts.kept {S : Nat → Prop} {w w' : World} {fa : Option Addr} {fc : Nat} {l : List Flt} (h : Flts w fa fc l) (hk : Kept S w w') (hs : ∀ b cs, Row w b cs 66 → ¬ S b) : Flts w' fa fc l := by
  refine ⟨h.cap, h.max, ?_, ?_⟩
  · rcases h.blk with e | ⟨b, off, e, cs, hr⟩
    · exact .inl e
    · exact .inr ⟨b, off, e, cs, hr.kept hk (hs b cs hr)⟩
  · rcases h.row with e | ⟨b, off, e, hc⟩
    · exact .inl e
    · refine .inr ⟨b, off, e, fun i f hf => ?_⟩
      rcases h.blk with e2 | ⟨b2, off2, e2, cs, hr⟩
      · subst e2; simp at hf
      · rw [e] at e2
        obtain ⟨rfl, rfl⟩ : b = b2 ∧ off = off2 := by simpa using e2
        have key : ∀ i, w'.cell? ⟨b, i, none⟩ = w.cell? ⟨b, i, none⟩ := fun i => World.cell?_of_block (w := w) (hk.block b hr.lt (hs b cs hr))
        rw [key, key, key]
        exact hc i f hf
theorem Flts.tail {w : World} {b off fc : Nat} {f : Flt} {l : List Flt} (h : Flts w (some ⟨b, off, none⟩) fc (f :: l)) : Flts w (if fc = 1 then some ⟨b, off, none⟩ else some ⟨b, off + 3, none⟩) (fc - 1) l := by
  have hc := h.cap
  have hm := h.max
  simp at hc
  refine ⟨by omega, by omega, ?_, ?_⟩
  · by_cases h1 : fc = 1
    · exact .inl (List.eq_nil_of_length_eq_zero (by omega))
    · rw [if_neg h1]
      rcases h.blk with e | ⟨b2, off2, e, hr⟩
      · cases e
      · obtain ⟨rfl, rfl⟩ : b = b2 ∧ off = off2 := by simpa using e
        exact .inr ⟨b, _, rfl, hr⟩
  · by_cases h1 : fc = 1
    · exact .inl (List.eq_nil_of_length_eq_zero (by omega))
    · rw [if_neg h1]
      rcases h.row with e | ⟨b2, off2, e, hr⟩
      · cases e
      · obtain ⟨rfl, rfl⟩ : b = b2 ∧ off = off2 := by simpa using e
        refine .inr ⟨b, _, rfl, fun i g hg => ?_⟩
        have := hr (i + 1) g (by simpa using hg)
        rw [show off + 3 + i * 3 = off + (i + 1) * 3 by omega]
        exact this
/-- What an operation makes of the chip's plan. -/
def CS.stepped (c : CS) : CS := { c with steps := wrap64 (c.steps + 1), fs := (stepF (wrap64 (c.steps + 1)) c.fs).2 }

theorem fault_block {w w' : World} {p : Nat} {cs : List Value} (hr : Row w p cs 77) (_ : Kept (fun k => k = p) w w') : ∀ b cs, Row w b cs 66 → ¬ (fun k => k = p) b := by
  intro b cs h e
  exact h.ne hr (by decide) e

set_option maxHeartbeats 4000000 in
theorem step_any (c : CS) (fa : Option Addr) (fc : Nat) (w : World) (hr : Row w c.p (csCells c fa fc) 77) (hfl : Flts w fa fc c.fs) :
    Calls Tryz.prog 215 #[.pointer (some ⟨c.p, 8, none⟩)] w fun e w' => e = .returned (.agg (flCells (stepF (wrap64 (c.steps + 1)) c.fs).1).toArray) ∧ ∃ fa' fc', Row w' c.p (csCells c.stepped fa' fc') 77 ∧ Flts w' fa' fc' c.stepped.fs ∧ Kept (fun k => k = c.p) w w' := by
  obtain ⟨s, hs⟩ : ∃ s, s = wrap64 (c.steps + 1) := ⟨_, rfl⟩
  have c8 : w.cell? ⟨c.p, 8, none⟩ = some (.slice fa c.fs.length fc) := hr.cell (by rfl)
  have c9 : w.cell? ⟨c.p, 9, none⟩ = some (.int .i64 c.steps) := hr.cell (by rfl)
  have f8 := hr.frozen 8
  have f9 := hr.frozen 9
  have hp : c.p < w.heap.size := hr.lt
  have hcap := hfl.cap
  have hmax := hfl.max
  unfold maxLen at hmax
  rcases hl : c.fs with _ | ⟨f, l⟩
  · have hst : c.stepped = { c with steps := s, fs := [] } := by unfold CS.stepped; rw [hl, ← hs]; rfl
    have hr2 : Row w c.p (csCells { c with fs := [] } fa fc) 77 := by rw [show ({ c with fs := [] } : CS) = c by rw [← hl]]; exact hr
    have HF : Hid (Flts w fa fc []) := by rw [← hl]; exact hfl
    rw [hst, ← hs]
    rw [hl] at c8 hcap
    have HS : Hid (s = wrap64 (c.steps + 1)) := hs
    have HR := hr2
    have HR0 := hr
    have fin : ∀ W', Row W' c.p (csCells { c with steps := s, fs := [] } fa fc) 77 → Kept (fun k => k = c.p) w W' → ∃ fa' fc', Row W' c.p (csCells { c with steps := s, fs := [] } fa' fc') 77 ∧ Flts W' fa' fc' [] ∧ Kept (fun k => k = c.p) w W' :=
      fun W' h1 h2 => ⟨fa, fc, h1, HF.out.kept h2 (fault_block HR0 h2), h2⟩
    generalize c.p = p at *
    generalize c.steps = t at *
    clear hr hfl hl hst hs
    go_enter Tryz.func215, Tryz.ntmps215
    go_wp2
    go_quiet (fail)
    go_wp2
    refine bodyPost_ret (v := .agg #[.int .i64 0, .int .i64 0, .int .i64 0]) ?_ rfl ⟨rfl, fin _ ?_ ?_⟩
    · simp [results, Tryz.f215, go_sem]
    · have := HR.set (i := 9) (.int .i64 (wrap64 (t + 1))) (by simp [csCells])
      rw [← HS.out] at this ⊢
      exact (((((this.alloc _).drewN _).setNew (w := w) _ _ hp (Nat.le_refl _)).setNew (w := w) _ _ hp (Nat.le_refl _)).setNew (w := w) _ _ hp (Nat.le_refl _))
    · exact ((((((Kept.refl (fun k => k = p) w).setCell (p := ⟨p, 9, none⟩) rfl _).alloc _).drewN _).setNew (p := ⟨w.heap.size, 0, none⟩) (Nat.le_refl _) _).setNew (p := ⟨w.heap.size, 1, none⟩) (Nat.le_refl _) _).setNew (p := ⟨w.heap.size, 2, none⟩) (Nat.le_refl _) _
  · have hne : c.fs ≠ [] := by rw [hl]; simp
    obtain ⟨b, off, rfl, hfc⟩ : ∃ b off, fa = some ⟨b, off, none⟩ ∧ ∀ i g, (f :: l)[i]? = some g → w.cell? ⟨b, off + i * 3, none⟩ = some (.int .i64 g.num) ∧ w.cell? ⟨b, off + i * 3 + 1, none⟩ = some (.int .i64 g.kind) ∧ w.cell? ⟨b, off + i * 3 + 2, none⟩ = some (.int .i64 g.torn) := by
      rcases hfl.row with h | h
      · exact absurd h hne
      · rw [← hl]; exact h
    obtain ⟨g0, g1, g2⟩ := hfc 0 f rfl
    simp only [Nat.zero_mul, Nat.add_zero] at g0 g1 g2
    have hbp : b ≠ c.p := by
      rcases hfl.blk with h | ⟨b2, off2, e, cs, hb⟩
      · exact absurd h hne
      · obtain ⟨rfl, rfl⟩ : b = b2 ∧ off = off2 := by simpa using e
        exact hb.ne hr (by decide)
    have hb : b < w.heap.size := World.block_lt_of_cell? w _ g0
    rw [hl] at c8 hcap
    simp only [List.length_cons] at c8 hcap
    have hr2 : Row w c.p (csCells { c with fs := f :: l } (some ⟨b, off, none⟩) fc) 77 := by rw [show ({ c with fs := f :: l } : CS) = c by rw [← hl]]; exact hr
    have HF : Hid (Flts w (some ⟨b, off, none⟩) fc (f :: l)) := by rw [← hl]; exact hfl
    have HR0 := hr
    have HS : Hid (s = wrap64 (c.steps + 1)) := hs
    by_cases hn : f.num = s
    · have hst : c.stepped = { c with steps := s, fs := l } := by unfold CS.stepped; rw [hl, ← hs]; simp [stepF, hn]
      have hsf : (stepF s (f :: l)).1 = f := by simp [stepF, hn]
      rw [hst, ← hs, hsf]
      have HT := HF.out.tail
      obtain ⟨fa2, hfa2⟩ : ∃ fa2, fa2 = (if fc = 1 then some (⟨b, off, none⟩ : Addr) else some ⟨b, off + 3, none⟩) := ⟨_, rfl⟩
      have fin : ∀ W', Row W' c.p (csCells { c with steps := s, fs := l } fa2 (fc - 1)) 77 → Kept (fun k => k = c.p) w W' → ∃ fa' fc', Row W' c.p (csCells { c with steps := s, fs := l } fa' fc') 77 ∧ Flts W' fa' fc' l ∧ Kept (fun k => k = c.p) w W' := by
        intro W' h1 h2
        have := HT.kept h2 (fault_block HR0 h2)
        rw [← hfa2] at this
        exact ⟨fa2, fc - 1, h1, this, h2⟩
      obtain ⟨u0, hu0⟩ : ∃ u0, u0 = f.num := ⟨_, rfl⟩
      obtain ⟨u1, hu1⟩ : ∃ u1, u1 = f.kind := ⟨_, rfl⟩
      obtain ⟨u2, hu2⟩ : ∃ u2, u2 = f.torn := ⟨_, rfl⟩
      have hfl2 : flCells f = [.int .i64 u0, .int .i64 u1, .int .i64 u2] := by rw [hu0, hu1, hu2]; rfl
      rw [hfl2]
      rw [← hu0] at g0 hn
      rw [← hu1] at g1
      rw [← hu2] at g2
      obtain ⟨m, hm⟩ : ∃ m, m = l.length := ⟨_, rfl⟩
      have HM : Hid (m = l.length) := hm
      rw [← hm] at c8 hcap
      clear hu0 hu1 hu2 hfl2 hsf HT hm hfc
      have HN : Hid (u0 = s) := hn
      have HA : Hid (fa2 = (if fc = 1 then some (⟨b, off, none⟩ : Addr) else some ⟨b, off + 3, none⟩)) := hfa2
      have e1 : (u0 != wrap64 (c.steps + 1)) = false := by rw [← hs, hn]; simp
      generalize c.p = p at *
      generalize c.steps = t at *
      clear hr hfl hl hst hs hn hfa2
      have walk : ∀ off2, fa2 = some ⟨b, off2, none⟩ → (fc = 1 → off2 = off) → (¬ fc = 1 → off2 = off + 3) → Calls Tryz.prog 215 #[.pointer (some ⟨p, 8, none⟩)] w fun e w' => e = .returned (.agg #[.int .i64 u0, .int .i64 u1, .int .i64 u2]) ∧ ∃ fa' fc', Row w' p (csCells { c with p := p, steps := s, fs := l } fa' fc') 77 ∧ Flts w' fa' fc' l ∧ Kept (fun k => k = p) w w' := by
        intro off2 ha2 ho1 ho3
        have HA2 : Hid (fa2 = some ⟨b, off2, none⟩) := ha2
        clear ha2
        by_cases h1 : fc = 1
        · have HO : Hid (off2 = off) := ho1 h1
          clear ho1 ho3
          obtain rfl : m = 0 := by omega
          subst h1
          obtain rfl : l = [] := List.eq_nil_of_length_eq_zero HM.out.symm
          go_enter Tryz.func215, Tryz.ntmps215
          go_wp2
          go_quiet (fail)
          go_wp2
          refine bodyPost_ret (v := .agg #[.int .i64 u0, .int .i64 u1, .int .i64 u2]) ?_ rfl ⟨rfl, fin _ ?_ ?_⟩
          · simp [results, Tryz.f215, go_sem]
          · have h9 := hr2.set (i := 9) (.int .i64 (wrap64 (t + 1))) (by simp [csCells])
            have h8 := ((h9.alloc (Obj.cells #[Value.int IntKind.i64 0, Value.int IntKind.i64 0, Value.int IntKind.i64 0] 66)).drewN nq).set (i := 8) (.slice (some ⟨b, off, none⟩) 0 0) (by simp [csCells])
            rw [HA2.out, HO.out, HS.out]
            exact (((h8.setNew (w := w) _ _ hp (Nat.le_refl _)).setNew (w := w) _ _ hp (Nat.le_refl _)).setNew (w := w) _ _ hp (Nat.le_refl _)).alloc _
          · exact ((((((((Kept.refl (fun k => k = p) w).setCell (p := ⟨p, 9, none⟩) rfl _).alloc _).drewN _).setCell (p := ⟨p, 8, none⟩) rfl _).setNew (p := ⟨w.heap.size, 0, none⟩) (Nat.le_refl _) _).setNew (p := ⟨w.heap.size, 1, none⟩) (Nat.le_refl _) _).setNew (p := ⟨w.heap.size, 2, none⟩) (Nat.le_refl _) _).alloc _
        · have HO : Hid (off2 = off + 3) := ho3 h1
          clear ho1 ho3
          go_enter Tryz.func215, Tryz.ntmps215
          go_wp2
          go_quiet (fail)
          go_wp2
          refine bodyPost_ret (v := .agg #[.int .i64 u0, .int .i64 u1, .int .i64 u2]) ?_ rfl ⟨rfl, fin _ ?_ ?_⟩
          · simp [results, Tryz.f215, go_sem]
          · have h9 := hr2.set (i := 9) (.int .i64 (wrap64 (t + 1))) (by simp [csCells])
            have h8 := ((h9.alloc (Obj.cells #[Value.int IntKind.i64 0, Value.int IntKind.i64 0, Value.int IntKind.i64 0] 66)).drewN nq).set (i := 8) (.slice (some ⟨b, off + 3, none⟩) m (fc - 1)) (by simp [csCells])
            rw [HA2.out, HO.out, HS.out]
            rw [HM.out] at h8 ⊢
            exact (((h8.setNew (w := w) _ _ hp (Nat.le_refl _)).setNew (w := w) _ _ hp (Nat.le_refl _)).setNew (w := w) _ _ hp (Nat.le_refl _)).alloc _
          · exact ((((((((Kept.refl (fun k => k = p) w).setCell (p := ⟨p, 9, none⟩) rfl _).alloc _).drewN _).setCell (p := ⟨p, 8, none⟩) rfl _).setNew (p := ⟨w.heap.size, 0, none⟩) (Nat.le_refl _) _).setNew (p := ⟨w.heap.size, 1, none⟩) (Nat.le_refl _) _).setNew (p := ⟨w.heap.size, 2, none⟩) (Nat.le_refl _) _).alloc _
      by_cases h1 : fc = 1
      · exact walk off (by rw [HA.out, if_pos h1]) (fun _ => rfl) (fun h => absurd h1 h)
      · exact walk (off + 3) (by rw [HA.out, if_neg h1]) (fun h => absurd h h1) (fun _ => rfl)
    · have hst : c.stepped = { c with steps := s, fs := f :: l } := by unfold CS.stepped; rw [hl, ← hs]; simp [stepF, hn]
      have hsf : (stepF s (f :: l)).1 = ⟨0, 0, 0⟩ := by simp [stepF, hn]
      rw [hst, ← hs, hsf]
      have fin : ∀ W', Row W' c.p (csCells { c with steps := s, fs := f :: l } (some ⟨b, off, none⟩) fc) 77 → Kept (fun k => k = c.p) w W' → ∃ fa' fc', Row W' c.p (csCells { c with steps := s, fs := f :: l } fa' fc') 77 ∧ Flts W' fa' fc' (f :: l) ∧ Kept (fun k => k = c.p) w W' :=
        fun W' h1 h2 => ⟨_, fc, h1, HF.out.kept h2 (fault_block HR0 h2), h2⟩
      obtain ⟨u0, hu0⟩ : ∃ u0, u0 = f.num := ⟨_, rfl⟩
      rw [← hu0] at g0 hn
      obtain ⟨m, hm⟩ : ∃ m, m = l.length := ⟨_, rfl⟩
      rw [← hm] at c8 hcap
      clear hu0 hsf hm hfc g1 g2
      have e1 : (u0 != wrap64 (c.steps + 1)) = true := by rw [← hs]; simpa using hn
      generalize c.p = p at *
      generalize c.steps = t at *
      clear hr hfl hl hst hs hn
      go_enter Tryz.func215, Tryz.ntmps215
      go_wp2
      go_quiet (fail)
      go_wp2
      refine bodyPost_ret (v := .agg #[.int .i64 0, .int .i64 0, .int .i64 0]) ?_ rfl ⟨rfl, fin _ ?_ ?_⟩
      · simp [results, Tryz.f215, go_sem]
      · have := hr2.set (i := 9) (.int .i64 (wrap64 (t + 1))) (by simp [csCells])
        rw [← HS.out] at this ⊢
        exact (((((this.alloc _).drewN _).setNew (w := w) _ _ hp (Nat.le_refl _)).setNew (w := w) _ _ hp (Nat.le_refl _)).setNew (w := w) _ _ hp (Nat.le_refl _))
      · exact ((((((Kept.refl (fun k => k = p) w).setCell (p := ⟨p, 9, none⟩) rfl _).alloc _).drewN _).setNew (p := ⟨w.heap.size, 0, none⟩) (Nat.le_refl _) _).setNew (p := ⟨w.heap.size, 1, none⟩) (Nat.le_refl _) _).setNew (p := ⟨w.heap.size, 2, none⟩) (Nat.le_refl _) _
end Go.Proofs.YtkfecngkdlajgaaGreatDoor
namespace Go.Proofs.YtkfecngkdlajgaaGreatDoor
open Go.RowKit
set_option maxRecDepth 10000

/-- The fault of the operation that begins. -/
def CS.fault (c : CS) : Flt := (stepF (wrap64 (c.steps + 1)) c.fs).1
/-- How much of the operation is done. -/
def CS.extent (c : CS) : Int := if c.fault.kind = 1 then c.fault.torn else if c.fault.kind = 2 then 1 else 2
/-- What the operation answers. -/
def CS.told (c : CS) : Int := if c.fault.kind = 1 then 6 else if c.fault.kind = 2 then 5 else 0
/-- The chip when the operation has begun. -/
def CS.operated (c : CS) : CS := { c with steps := wrap64 (c.steps + 1), fs := (stepF (wrap64 (c.steps + 1)) c.fs).2, ops := wrap64 (c.ops + 1), on := if c.fault.kind = 1 then false else c.on }

set_option maxHeartbeats 2000000 in
theorem operate_any (c : CS) (fa : Option Addr) (fc : Nat) (w : World) (hr : Row w c.p (csCells c fa fc) 77) (hfl : Flts w fa fc c.fs) :
    Calls Tryz.prog 196 #[.pointer (some ⟨c.p, 0, none⟩)] w fun e w' => e = .returned (.tuple #[.int .i64 c.extent, .int .i64 c.told]) ∧ ∃ fa' fc', Row w' c.p (csCells c.operated fa' fc') 77 ∧ Flts w' fa' fc' c.operated.fs ∧ Kept (fun k => k = c.p) w w' := by
  have c6 : w.cell? ⟨c.p, 6, none⟩ = some (.int .i64 c.ops) := hr.cell (by rfl)
  have f6 := hr.frozen 6
  have hr1 : Row (w.setCell ⟨c.p, 6, none⟩ (.int .i64 (wrap64 (c.ops + 1)))) c.p (csCells { c with ops := wrap64 (c.ops + 1) } fa fc) 77 := hr.set (i := 6) (.int .i64 (wrap64 (c.ops + 1))) (by simp [csCells])
  have hk1 : Kept (fun k => k = c.p) w (w.setCell ⟨c.p, 6, none⟩ (.int .i64 (wrap64 (c.ops + 1)))) := (Kept.refl (fun k => k = c.p) w).setCell (p := ⟨c.p, 6, none⟩) rfl _
  have hfl1 := hfl.kept hk1 (fault_block hr hk1)
  have hst := step_any { c with ops := wrap64 (c.ops + 1) } fa fc _ hr1 hfl1
  have ef : (stepF (wrap64 (c.steps + 1)) c.fs).1 = c.fault := rfl
  simp only [ef] at hst
  have fin : ∀ fa' fc' W, Row W c.p (csCells ({ c with ops := wrap64 (c.ops + 1) } : CS).stepped fa' fc') 77 → Flts W fa' fc' ({ c with ops := wrap64 (c.ops + 1) } : CS).stepped.fs → Kept (fun k => k = c.p) (w.setCell ⟨c.p, 6, none⟩ (.int .i64 (wrap64 (c.ops + 1)))) W →
      c.p < W.heap.size ∧ W.cell? ⟨c.p, 5, none⟩ = some (.bool c.on) ∧ W.frozen? ⟨c.p, 5, none⟩ = false ∧ Kept (fun k => k = c.p) w W ∧
      (¬ c.fault.kind = 1 → Row W c.p (csCells c.operated fa' fc') 77 ∧ Flts W fa' fc' c.operated.fs) ∧
      (c.fault.kind = 1 → Row (W.setCell ⟨c.p, 5, none⟩ (.bool false)) c.p (csCells c.operated fa' fc') 77 ∧ Flts W fa' fc' c.operated.fs) := by
    intro fa' fc' W h1 h2 h3
    refine ⟨h1.lt, h1.cell (by rfl), h1.frozen 5, hk1.trans h3, fun hn => ⟨?_, h2⟩, fun hy => ⟨?_, h2⟩⟩
    · have : c.operated = ({ c with ops := wrap64 (c.ops + 1) } : CS).stepped := by unfold CS.operated CS.stepped; rw [if_neg hn]
      rw [this]; exact h1
    · have : c.operated = { ({ c with ops := wrap64 (c.ops + 1) } : CS).stepped with on := false } := by unfold CS.operated CS.stepped; rw [if_pos hy]
      rw [this]; exact h1.set (i := 5) (.bool false) (by simp [csCells])
  have HF := fin
  clear fin
  have hfb : ∀ (fa' : Option Addr) (fc' : Nat) (W W' : World) (cs : List Value) (l : List Flt), Row W c.p cs 77 → Flts W fa' fc' l → Kept (fun k => k = c.p) W W' → Flts W' fa' fc' l := fun fa' fc' W W' cs l h1 h2 h3 => h2.kept h3 (fault_block h1 h3)
  clear hr hr1 hk1 hfl1 hfl ef
  have hx : ∀ k t : Int, c.fault.kind = k → c.fault.torn = t → c.extent = (if k = 1 then t else if k = 2 then 1 else 2) ∧ c.told = (if k = 1 then 6 else if k = 2 then 5 else 0) := by
    rintro k t rfl rfl; exact ⟨rfl, rfl⟩
  obtain ⟨k0, hk0⟩ : ∃ k0, k0 = c.fault.num := ⟨_, rfl⟩
  obtain ⟨k, hk⟩ : ∃ k, k = c.fault.kind := ⟨_, rfl⟩
  obtain ⟨t, ht⟩ : ∃ t, t = c.fault.torn := ⟨_, rfl⟩
  obtain ⟨hx1, hx2⟩ := hx k t hk.symm ht.symm
  have hfc : (flCells c.fault).toArray = #[.int .i64 k0, .int .i64 k, .int .i64 t] := by rw [hk0, hk, ht]; rfl
  rw [hfc] at hst
  rw [← hk] at HF
  rw [hx1, hx2]
  clear hx hfc hk0 hk ht hx1 hx2
  obtain ⟨X, hX⟩ : ∃ X, X = c.operated := ⟨_, rfl⟩
  rw [← hX] at HF ⊢
  clear hX
  have HFx : Hid (∀ (fa' : Option Addr) (fc' : Nat) (W W' : World) (cs : List Value) (l : List Flt), Row W c.p cs 77 → Flts W fa' fc' l → Kept (fun k => k = c.p) W W' → Flts W' fa' fc' l) := hfb
  clear hfb
  have HFi : Hid _ := HF
  clear HF
  generalize hcp : c.p = p at *
  generalize c.on = on at *
  generalize hco : c.ops = ops at *
  by_cases h1 : k = 1
  · rw [if_pos h1, if_pos h1]
    have e1 : (k == 1) = true := by simpa using h1
    have HK : Hid (k = 1) := h1
    clear h1
    go_enter Tryz.func196, Tryz.ntmps196
    go_wp2_with (go_at_call 215; refine hst.mono ?_; rintro e w1 ⟨rfl, fa', fc', q1, q2, q3⟩; obtain ⟨q4, q5, q6, q7, _, q9⟩ := HFi.out fa' fc' w1 q1 q2 q3; have q10 : Hid _ := q9; clear q9)
    go_ret2
    obtain ⟨q11, q12⟩ := q10.out HK.out
    exact ⟨rfl, fa', fc', q11.alloc _, HFx.out _ _ _ _ _ _ q1 q12 (((Kept.refl (fun k => k = p) w1).setCell (p := ⟨p, 5, none⟩) rfl _).alloc _), (q7.setCell (p := ⟨p, 5, none⟩) rfl _).alloc _⟩
  · rw [if_neg h1, if_neg h1]
    have e1 : (k == 1) = false := by simpa using h1
    have HK : Hid (¬ k = 1) := h1
    clear h1
    by_cases h2 : k = 2
    · rw [if_pos h2, if_pos h2]
      have e2 : (k == 2) = true := by simpa using h2
      clear h2
      go_enter Tryz.func196, Tryz.ntmps196
      go_wp2_with (go_at_call 215; refine hst.mono ?_; rintro e w1 ⟨rfl, fa', fc', q1, q2, q3⟩; obtain ⟨q4, q5, q6, q7, q9, _⟩ := HFi.out fa' fc' w1 q1 q2 q3; have q10 : Hid _ := q9; clear q9)
      go_ret2
      obtain ⟨q11, q12⟩ := q10.out HK.out
      exact ⟨rfl, fa', fc', q11.alloc _, HFx.out _ _ _ _ _ _ q1 q12 ((Kept.refl (fun k => k = p) w1).alloc _), q7.alloc _⟩
    · rw [if_neg h2, if_neg h2]
      have e2 : (k == 2) = false := by simpa using h2
      clear h2
      go_enter Tryz.func196, Tryz.ntmps196
      go_wp2_with (go_at_call 215; refine hst.mono ?_; rintro e w1 ⟨rfl, fa', fc', q1, q2, q3⟩; obtain ⟨q4, q5, q6, q7, q9, _⟩ := HFi.out fa' fc' w1 q1 q2 q3; have q10 : Hid _ := q9; clear q9)
      go_ret2
      obtain ⟨q11, q12⟩ := q10.out HK.out
      exact ⟨rfl, fa', fc', q11.alloc _, HFx.out _ _ _ _ _ _ q1 q12 ((Kept.refl (fun k => k = p) w1).alloc _), q7.alloc _⟩
end Go.Proofs.YtkfecngkdlajgaaGreatDoor
namespace Go.Proofs.YtkfecngkdlajgaaGreatDoor
open Go.RowKit
set_option maxRecDepth 10000

theorem pgs_set {W : World} {r i : Nat} {l : List Pg} {t : TypeId} (st : Int) (d : List Nat) (h : Row W r (l.flatMap pgCells) t) (hi : i < l.length) :
    Row ((W.setCell ⟨r, i * 2, none⟩ (.int .i64 st)).setCell ⟨r, i * 2 + 1, none⟩ (.string (bstr d))) r ((l.set i ⟨st, d⟩).flatMap pgCells) t := by
  have hlen := flat_len pgCells 2 pg_len l
  have h1 := h.set (i := i * 2) (.int .i64 st) (by omega)
  have e1 := flat_set pgCells 2 pg_len 0 (by decide) (.int .i64 st) ⟨st, l[i].data⟩ l i l[i] (List.getElem?_eq_getElem hi) rfl
  simp only [Nat.add_zero] at e1
  rw [e1] at h1
  have hlen2 := flat_len pgCells 2 pg_len (l.set i ⟨st, l[i].data⟩)
  rw [List.length_set] at hlen2
  have h2 := h1.set (i := i * 2 + 1) (.string (bstr d)) (by omega)
  rw [flat_set pgCells 2 pg_len 1 (by decide) (.string (bstr d)) ⟨st, d⟩ _ i ⟨st, l[i].data⟩ (by simp [hi]) rfl, List.set_set] at h2
  exact h2
theorem pg_cells {W : World} {r i : Nat} {l : List Pg} {t : TypeId} (h : Row W r (l.flatMap pgCells) t) (hi : i < l.length) :
    W.cell? ⟨r, i * 2, none⟩ = some (.int .i64 l[i].st) ∧ W.cell? ⟨r, i * 2 + 1, none⟩ = some (.string (bstr l[i].data)) := by
  have e1 := flat_get pgCells 2 pg_len 0 (by decide) l i l[i] (List.getElem?_eq_getElem hi)
  have e2 := flat_get pgCells 2 pg_len 1 (by decide) l i l[i] (List.getElem?_eq_getElem hi)
  exact ⟨h.cell e1, h.cell e2⟩
/-- k pages of a list laid with a state. -/
def laidL (s : Int) (l : List Pg) (k : Nat) : List Pg := List.replicate k ⟨s, []⟩ ++ l.drop k
theorem laidL_len (s : Int) (l : List Pg) (k : Nat) (h : k ≤ l.length) : (laidL s l k).length = l.length := by simp [laidL]; omega
theorem laidL_set (s : Int) (l : List Pg) (k : Nat) (h : k < l.length) : (laidL s l k).set k ⟨s, []⟩ = laidL s l (k + 1) := by
  unfold laidL
  rw [List.set_append_right _ _ (by simp), List.length_replicate, Nat.sub_self, List.drop_eq_getElem_cons h, List.set_cons_zero, List.replicate_succ', List.append_assoc]
  rfl
theorem laidL_end (s : Int) (l : List Pg) : laidL s l l.length = List.replicate l.length ⟨s, []⟩ := by simp [laidL]

set_option maxHeartbeats 1000000 in
theorem lay_any (q o r cap n : Nat) (l : List Pg) (s : Int) (w : World) (hn : n = l.length) (hl : n ≤ 64) (hc : w.cell? ⟨q, o, none⟩ = some (.slice (some ⟨r, 0, none⟩) n cap)) (hqr : q ≠ r) (hr : Row w r (l.flatMap pgCells) 251) :
    Calls Tryz.prog 216 #[.pointer (some ⟨q, o, none⟩), .int .i64 s] w fun e w' => e = .returned (.tuple #[]) ∧ Row w' r ((List.replicate n (⟨s, []⟩ : Pg)).flatMap pgCells) 251 ∧ Kept (fun k => k = r) w w' := by
  have HN : Hid (n = l.length) := hn
  have HR : Hid (Row w r ((laidL s l 0).flatMap pgCells) 251) := by show Row _ _ _ _; simpa [laidL] using hr
  clear hr hn
  go_enter Tryz.func216, Tryz.ntmps216
  go_wp2
  go_loopw [10] (fun i wr => ∃ k : Nat, k ≤ n ∧ i = .int .i64 k ∧ Hid (Row wr r ((laidL s l k).flatMap pgCells) 251) ∧ Kept (fun k => k = r) w wr) (fun i _ => n - (intOf i).toNat)
  case atStart => exact ⟨0, by omega, rfl, HR, Kept.refl _ w⟩
  case round =>
    obtain ⟨k, hk, rfl, hrow, hkept⟩ := hrel
    have hcr : wr.cell? ⟨q, o, none⟩ = some (.slice (some ⟨r, 0, none⟩) n cap) := (World.cell?_of_block (w := w) (hkept.block q (World.block_lt_of_cell? w _ hc) hqr)).trans hc
    by_cases hlt : k < n
    · have hf0 := hrow.out.frozen (k * 2)
      have hf1 := hrow.out.frozen (k * 2 + 1)
      have hkl : k < l.length := by have := HN.out; omega
      have HKL : Hid (k < (laidL s l k).length) := by show _ < _; rw [laidL_len s l k (by omega)]; exact hkl
      obtain ⟨g0, g1⟩ := pg_cells hrow.out HKL.out
      obtain ⟨v0, hv0⟩ : ∃ v0, wr.cell? ⟨r, k * 2, none⟩ = some v0 := ⟨_, g0⟩
      obtain ⟨v1, hv1⟩ : ∃ v1, wr.cell? ⟨r, k * 2 + 1, none⟩ = some v1 := ⟨_, g1⟩
      clear g0 g1
      go_wp2
      refine ⟨⟨k + 1, by omega, by simp, ?_, ?_⟩, by simp [intOf]; omega⟩
      · have := pgs_set s [] hrow.out HKL.out
        rw [laidL_set s l k hkl] at this
        exact this
      · exact (hkept.setCell (p := ⟨r, k * 2, none⟩) rfl _).setCell (p := ⟨r, k * 2 + 1, none⟩) rfl _
    · go_wp2
      go_end0
      have e : k = l.length := by have := HN.out; omega
      subst e
      refine ⟨rfl, ?_, hkept⟩
      have := hrow.out
      rw [laidL_end] at this
      rw [HN.out]
      exact this

/-- A block's own cells, at o in its row. -/
structure At (w : World) (q o : Nat) (b : Bk) : Prop where
  list : w.cell? ⟨q, o, none⟩ = some (.slice (some ⟨b.r, 0, none⟩) b.pgs.length b.cap)
  next : w.cell? ⟨q, o + 1, none⟩ = some (.int .i64 b.next)
  erases : w.cell? ⟨q, o + 2, none⟩ = some (.int .i64 b.erases)
  bad : w.cell? ⟨q, o + 3, none⟩ = some (.bool b.bad)
theorem At.of {W : World} {q i : Nat} {l : List Bk} {b : Bk} {t : TypeId} (h : Row W q (l.flatMap bkCells) t) (hi : l[i]? = some b) : At W q (i * 4) b :=
  ⟨h.cell (flat_get bkCells 4 bk_len 0 (by decide) l i b hi), h.cell (flat_get bkCells 4 bk_len 1 (by decide) l i b hi), h.cell (flat_get bkCells 4 bk_len 2 (by decide) l i b hi), h.cell (flat_get bkCells 4 bk_len 3 (by decide) l i b hi)⟩

/-- What a program leaves of a block. -/
def Bk.programmed (b : Bk) (data : List Nat) (x : Int) : Bk :=
  if x = 0 then b else if x = 1 then { b with pgs := b.pgs.set b.next.toNat ⟨2, []⟩, next := b.next + 1 } else { b with pgs := b.pgs.set b.next.toNat ⟨1, data⟩, next := b.next + 1 }
/-- What an erase leaves of a block. -/
def Bk.erased (b : Bk) (x : Int) : Bk :=
  if x = 1 then { b with pgs := List.replicate b.pgs.length ⟨2, []⟩, next := b.pgs.length } else if x = 2 then { b with pgs := List.replicate b.pgs.length ⟨0, []⟩, next := 0 } else b

theorem bk_next {W : World} {q i : Nat} {l : List Bk} {b : Bk} {t : TypeId} (b' : Bk) (h : Row W q (l.flatMap bkCells) t) (hi : l[i]? = some b) (e : (bkCells b).set 1 (.int .i64 b'.next) = bkCells b') : Row (W.setCell ⟨q, i * 4 + 1, none⟩ (.int .i64 b'.next)) q ((l.set i b').flatMap bkCells) t := by
  have hlen := flat_len bkCells 4 bk_len l
  have hlt := (List.getElem?_eq_some_iff.1 hi).1
  have := h.set (i := i * 4 + 1) (.int .i64 b'.next) (by omega)
  rw [flat_set bkCells 4 bk_len 1 (by decide) _ b' l i b hi e] at this
  exact this
theorem bk_erases {W : World} {q i : Nat} {l : List Bk} {b : Bk} {t : TypeId} (b' : Bk) (h : Row W q (l.flatMap bkCells) t) (hi : l[i]? = some b) (e : (bkCells b).set 2 (.int .i64 b'.erases) = bkCells b') : Row (W.setCell ⟨q, i * 4 + 2, none⟩ (.int .i64 b'.erases)) q ((l.set i b').flatMap bkCells) t := by
  have hlen := flat_len bkCells 4 bk_len l
  have hlt := (List.getElem?_eq_some_iff.1 hi).1
  have := h.set (i := i * 4 + 2) (.int .i64 b'.erases) (by omega)
  rw [flat_set bkCells 4 bk_len 2 (by decide) _ b' l i b hi e] at this
  exact this
theorem bk_bad {W : World} {q i : Nat} {l : List Bk} {b : Bk} {t : TypeId} (b' : Bk) (h : Row W q (l.flatMap bkCells) t) (hi : l[i]? = some b) (e : (bkCells b).set 3 (.bool b'.bad) = bkCells b') : Row (W.setCell ⟨q, i * 4 + 3, none⟩ (.bool b'.bad)) q ((l.set i b').flatMap bkCells) t := by
  have hlen := flat_len bkCells 4 bk_len l
  have hlt := (List.getElem?_eq_some_iff.1 hi).1
  have := h.set (i := i * 4 + 3) (.bool b'.bad) (by omega)
  rw [flat_set bkCells 4 bk_len 3 (by decide) _ b' l i b hi e] at this
  exact this
theorem set_self {α : Type} {l : List α} {i : Nat} {b : α} (h : l[i]? = some b) : l.set i b = l := by
  obtain ⟨hlt, e⟩ := List.getElem?_eq_some_iff.1 h
  rw [← e]; exact List.set_getElem_self hlt

set_option maxHeartbeats 2000000 in
theorem program_any (q i : Nat) (l : List Bk) (b : Bk) (data : List Nat) (a : Option Addr) (dc : Nat) (x : Int) (k : Nat) (w : World) (hi : l[i]? = some b) (hx : x = 0 ∨ x = 1 ∨ x = 2) (hk : b.next = k) (hk2 : k < b.pgs.length) (hcap : b.pgs.length ≤ b.cap) (hcm : b.cap ≤ maxLen)
    (hq : Row w q (l.flatMap bkCells) 108) (hr : Row w b.r (b.pgs.flatMap pgCells) 251) (hd : BRow w a data) :
    Calls Tryz.prog 217 #[.pointer (some ⟨q, i * 4, none⟩), .slice a data.length dc, .int .i64 x] w fun e w' => e = .returned (.tuple #[]) ∧ Row w' b.r ((b.programmed data x).pgs.flatMap pgCells) 251 ∧
      Row w' q ((l.set i (b.programmed data x)).flatMap bkCells) 108 ∧ Kept (fun k => k = q ∨ k = b.r) w w' := by
  have hat := At.of hq hi
  obtain ⟨c0, c1, _, _⟩ := hat
  have hf := hq.frozen (i * 4 + 1)
  have hqr : q ≠ b.r := hq.ne hr (by decide)
  have hqr2 : b.r ≠ q := hqr.symm
  rw [hk] at c1
  obtain ⟨g0, g1⟩ := pg_cells hr hk2
  obtain ⟨v0, hv0⟩ : ∃ v0, w.cell? ⟨b.r, k * 2, none⟩ = some v0 := ⟨_, g0⟩
  obtain ⟨v1, hv1⟩ : ∃ v1, w.cell? ⟨b.r, k * 2 + 1, none⟩ = some v1 := ⟨_, g1⟩
  have hf0 := hr.frozen (k * 2)
  have hf1 := hr.frozen (k * 2 + 1)
  clear g0 g1
  have HQ : Hid (Row w q (l.flatMap bkCells) 108) := hq
  have HR : Hid (Row w b.r (b.pgs.flatMap pgCells) 251) := hr
  have HI : Hid (l[i]? = some b) := hi
  have HK : Hid (b.next = k) := hk
  have HK2 : Hid (k < b.pgs.length) := hk2
  clear hq hr hi
  obtain ⟨n, hn⟩ : ∃ n, n = b.pgs.length := ⟨_, rfl⟩
  rw [← hn] at c0 hk2 hcap
  have HD := conv_row dc hd
  obtain ⟨S, hS⟩ : ∃ S, S = bstr data := ⟨_, rfl⟩
  rw [← hS] at HD
  have hkt : b.next.toNat = k := by omega
  unfold maxLen at hcm
  rcases hx with rfl | rfl | rfl
  · have hb : b.programmed data 0 = b := rfl
    rw [hb, set_self HI.out]
    clear hb HD hd hS hn hk hkt
    go_enter Tryz.func217, Tryz.ntmps217
    go_wp2
    refine bodyPost_ret (results_none rfl _ _ _) rfl ?_
    exact ⟨rfl, HR.out, HQ.out, Kept.refl _ w⟩
  · have hb : b.programmed data 1 = { b with pgs := b.pgs.set k ⟨2, []⟩, next := (k : Int) + 1 } := by unfold Bk.programmed; rw [if_neg (by decide), if_pos rfl, hkt, hk]
    rw [hb]
    have fin : ∀ W, W = ((w.setCell ⟨b.r, k * 2, none⟩ (.int .i64 2)).setCell ⟨b.r, k * 2 + 1, none⟩ (.string ⟨#[]⟩)).setCell ⟨q, i * 4 + 1, none⟩ (.int .i64 ((k : Int) + 1)) →
        Row W b.r ((b.pgs.set k ⟨2, []⟩).flatMap pgCells) 251 ∧ Row W q ((l.set i { b with pgs := b.pgs.set k ⟨2, []⟩, next := (k : Int) + 1 }).flatMap bkCells) 108 ∧ Kept (fun k => k = q ∨ k = b.r) w W := by
      rintro W rfl
      refine ⟨(pgs_set 2 [] HR.out HK2.out).other _ _ hqr2, ?_, (((Kept.refl _ w).setCell (p := ⟨b.r, k * 2, none⟩) (.inr rfl) _).setCell (p := ⟨b.r, k * 2 + 1, none⟩) (.inr rfl) _).setCell (p := ⟨q, i * 4 + 1, none⟩) (.inl rfl) _⟩
      exact bk_next { b with pgs := b.pgs.set k ⟨2, []⟩, next := (k : Int) + 1 } ((HQ.out.other _ _ hqr).other _ _ hqr) HI.out (by simp [bkCells])
    clear hb HD hd hS hn hk hkt
    generalize b.r = r at *
    generalize b.cap = cap at *
    go_enter Tryz.func217, Tryz.ntmps217
    go_wp2
    go_region
    all_goals go_wp2
    all_goals go_end0
    all_goals
      obtain ⟨h1, h2, h3⟩ := fin _ rfl
      exact ⟨rfl, h1, h2, h3.drew⟩
  · have hb : b.programmed data 2 = { b with pgs := b.pgs.set k ⟨1, data⟩, next := (k : Int) + 1 } := by unfold Bk.programmed; rw [if_neg (by decide), if_neg (by decide), hkt, hk]
    rw [hb]
    have fin : ∀ W, W = ((w.setCell ⟨b.r, k * 2, none⟩ (.int .i64 1)).setCell ⟨b.r, k * 2 + 1, none⟩ (.string S)).setCell ⟨q, i * 4 + 1, none⟩ (.int .i64 ((k : Int) + 1)) →
        Row W b.r ((b.pgs.set k ⟨1, data⟩).flatMap pgCells) 251 ∧ Row W q ((l.set i { b with pgs := b.pgs.set k ⟨1, data⟩, next := (k : Int) + 1 }).flatMap bkCells) 108 ∧ Kept (fun k => k = q ∨ k = b.r) w W := by
      rintro W rfl
      rw [hS]
      refine ⟨(pgs_set 1 data HR.out HK2.out).other _ _ hqr2, ?_, (((Kept.refl _ w).setCell (p := ⟨b.r, k * 2, none⟩) (.inr rfl) _).setCell (p := ⟨b.r, k * 2 + 1, none⟩) (.inr rfl) _).setCell (p := ⟨q, i * 4 + 1, none⟩) (.inl rfl) _⟩
      exact bk_next { b with pgs := b.pgs.set k ⟨1, data⟩, next := (k : Int) + 1 } ((HQ.out.other _ _ hqr).other _ _ hqr) HI.out (by simp [bkCells])
    have HDn : ∀ m, (convert 56 9 (.slice a data.length dc)).run Tryz.prog (w.drewN m) = .ok (.string S) (w.drewN m) := fun m => by rw [hS]; exact conv_row dc (hd.later (below_drawn w m))
    have HD1 : (convert 56 9 (.slice a data.length dc)).run Tryz.prog w.drew = .ok (.string S) w.drew := HDn 1
    clear hb hd hS hn hk hkt
    generalize b.r = r at *
    generalize b.cap = cap at *
    generalize data.length = dl at *
    go_enter Tryz.func217, Tryz.ntmps217
    go_wp2
    go_region
    all_goals go_wp2
    all_goals go_end0
    all_goals
      obtain ⟨h1, h2, h3⟩ := fin _ rfl
      exact ⟨rfl, h1, h2, h3.drew⟩

set_option maxHeartbeats 2000000 in
theorem erase_any (q i : Nat) (l : List Bk) (b : Bk) (x : Int) (w : World) (hi : l[i]? = some b) (hx : x = 0 ∨ x = 1 ∨ x = 2) (hl : b.pgs.length ≤ 64)
    (hq : Row w q (l.flatMap bkCells) 108) (hr : Row w b.r (b.pgs.flatMap pgCells) 251) :
    Calls Tryz.prog 197 #[.pointer (some ⟨q, i * 4, none⟩), .int .i64 x] w fun e w' => e = .returned (.tuple #[]) ∧ Row w' b.r ((b.erased x).pgs.flatMap pgCells) 251 ∧
      Row w' q ((l.set i (b.erased x)).flatMap bkCells) 108 ∧ Kept (fun k => k = q ∨ k = b.r) w w' := by
  obtain ⟨c0, c1, _, _⟩ := At.of hq hi
  have hqr : q ≠ b.r := hq.ne hr (by decide)
  rcases hx with rfl | rfl | rfl
  · have hb : b.erased 0 = b := rfl
    rw [hb, set_self hi]
    go_enter Tryz.func197, Tryz.ntmps197
    go_wp2
    go_end0
    exact ⟨rfl, hr, hq, Kept.refl _ w⟩
  · have hlay := lay_any q (i * 4) b.r b.cap b.pgs.length b.pgs 2 w rfl hl c0 hqr hr
    have hb : b.erased 1 = { b with pgs := List.replicate b.pgs.length ⟨2, []⟩, next := (b.pgs.length : Int) } := rfl
    rw [hb]
    have fin : ∀ W, Row W b.r ((List.replicate b.pgs.length (⟨2, []⟩ : Pg)).flatMap pgCells) 251 → Kept (fun k => k = b.r) w W → Row W q (l.flatMap bkCells) 108 ∧ W.cell? ⟨q, i * 4, none⟩ = some (.slice (some ⟨b.r, 0, none⟩) b.pgs.length b.cap) ∧ W.cell? ⟨q, i * 4 + 1, none⟩ = some (.int .i64 b.next) ∧ W.frozen? ⟨q, i * 4 + 1, none⟩ = false ∧
        Row (W.setCell ⟨q, i * 4 + 1, none⟩ (.int .i64 (b.pgs.length : Int))) b.r ((List.replicate b.pgs.length (⟨2, []⟩ : Pg)).flatMap pgCells) 251 ∧ Row (W.setCell ⟨q, i * 4 + 1, none⟩ (.int .i64 (b.pgs.length : Int))) q ((l.set i { b with pgs := List.replicate b.pgs.length ⟨2, []⟩, next := (b.pgs.length : Int) }).flatMap bkCells) 108 ∧ Kept (fun k => k = q ∨ k = b.r) w (W.setCell ⟨q, i * 4 + 1, none⟩ (.int .i64 (b.pgs.length : Int))) := by
      intro W h1 h2
      have h3 := hq.kept h2 hqr
      obtain ⟨d0, d1, _, _⟩ := At.of h3 hi
      refine ⟨h3, d0, d1, h3.frozen _, h1.other _ _ hqr.symm, ?_, (h2.mono (fun k e => .inr e)).setCell (p := ⟨q, i * 4 + 1, none⟩) (.inl rfl) _⟩
      exact bk_next { b with pgs := List.replicate b.pgs.length ⟨2, []⟩, next := (b.pgs.length : Int) } h3 hi (by simp [bkCells])
    clear hb hi hq hr
    generalize b.r = r at *
    generalize b.cap = cap at *
    generalize hn : b.pgs.length = n at *
    clear hn
    go_enter Tryz.func197, Tryz.ntmps197
    go_wp2_with (go_at_call 216; refine hlay.mono ?_; rintro e w1 ⟨rfl, h1, h2⟩; obtain ⟨h3, d0, d1, hf, h4, h5, h6⟩ := fin w1 h1 h2)
    go_end0
    exact ⟨rfl, h4, h5, h6⟩
  · have hlay := lay_any q (i * 4) b.r b.cap b.pgs.length b.pgs 0 w rfl hl c0 hqr hr
    have hb : b.erased 2 = { b with pgs := List.replicate b.pgs.length ⟨0, []⟩, next := 0 } := rfl
    rw [hb]
    have fin : ∀ W, Row W b.r ((List.replicate b.pgs.length (⟨0, []⟩ : Pg)).flatMap pgCells) 251 → Kept (fun k => k = b.r) w W → Row W q (l.flatMap bkCells) 108 ∧ W.cell? ⟨q, i * 4 + 1, none⟩ = some (.int .i64 b.next) ∧ W.frozen? ⟨q, i * 4 + 1, none⟩ = false ∧
        Row (W.setCell ⟨q, i * 4 + 1, none⟩ (.int .i64 0)) b.r ((List.replicate b.pgs.length (⟨0, []⟩ : Pg)).flatMap pgCells) 251 ∧ Row (W.setCell ⟨q, i * 4 + 1, none⟩ (.int .i64 0)) q ((l.set i { b with pgs := List.replicate b.pgs.length ⟨0, []⟩, next := 0 }).flatMap bkCells) 108 ∧ Kept (fun k => k = q ∨ k = b.r) w (W.setCell ⟨q, i * 4 + 1, none⟩ (.int .i64 0)) := by
      intro W h1 h2
      have h3 := hq.kept h2 hqr
      obtain ⟨d0, d1, _, _⟩ := At.of h3 hi
      refine ⟨h3, d1, h3.frozen _, h1.other _ _ hqr.symm, ?_, (h2.mono (fun k e => .inr e)).setCell (p := ⟨q, i * 4 + 1, none⟩) (.inl rfl) _⟩
      exact bk_next { b with pgs := List.replicate b.pgs.length ⟨0, []⟩, next := 0 } h3 hi (by simp [bkCells])
    clear hb hi hq hr
    generalize b.r = r at *
    generalize b.cap = cap at *
    generalize hn : b.pgs.length = n at *
    clear hn
    go_enter Tryz.func197, Tryz.ntmps197
    go_wp2_with (go_at_call 216; refine hlay.mono ?_; rintro e w1 ⟨rfl, h1, h2⟩; obtain ⟨h3, d1, hf, h4, h5, h6⟩ := fin w1 h1 h2)
    go_end0
    exact ⟨rfl, h4, h5, h6⟩
end Go.Proofs.YtkfecngkdlajgaaGreatDoor
