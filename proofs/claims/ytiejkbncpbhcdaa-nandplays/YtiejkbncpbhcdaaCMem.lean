/-
  The chip in memory: rows of cells, what stays while others are written, bytes, pages, blocks.
-/
import Derived.Test.YtiejkbncpbhcdaaRows
import Derived.WalkKit
import Derived.WalkSpells
import Derived.WalkLawsBesides
import Derived.Laws.BytesArg
namespace Go.Proofs.Ytiejkbncpbhcdaa
open Go.RowKit

theorem ret_int {k : IntKind} {a b : Int} (h : a = b) : Ending.returned (.int k a) = .returned (.int k b) := by rw [h]
theorem ret_bool {a b : Bool} (h : a = b) : Ending.returned (.bool a) = .returned (.bool b) := by rw [h]
/-- A slice's elements, as they lie: it is empty, or its address leads to the bytes l. -/
def BRow (w : World) (a : Option Addr) (l : List Nat) : Prop :=
  l = [] ∨ ∃ b off, a = some ⟨b, off, none⟩ ∧ ∀ i, i < l.length → w.cell? ⟨b, off + i, none⟩ = some (.int .u8 ((l.getD i 0 : Nat) : Int))
/-- The cell of a byte. -/
def u8v (x : Nat) : Value := .int .u8 (x : Int)

/-- The call that began in w has made the bytes l, in new memory: v leads to them. -/
def Own (w w' : World) (v : Value) (l : List Nat) : Prop :=
  w'.ownsRow w.heap.size 5 1 v l.length (l.map u8v) ∧ Below w.heap.size w w'

theorem BRow.later {w w' : World} {a : Option Addr} {l : List Nat} (h : BRow w a l) (hb : Below w.heap.size w w') : BRow w' a l := by
  rcases h with h | ⟨b, off, ha, hc⟩
  · exact .inl h
  · exact .inr ⟨b, off, ha, fun i hi => by
      have h1 := hc i hi
      have h2 := World.block_lt_of_cell? w _ h1
      rw [hb.cell (p := ⟨b, off + i, none⟩) h2]
      exact h1⟩

theorem owns_later {w w' : World} {base e size n : Nat} {v : Value} {xs : List Value} (h : w.ownsRow base e size v n xs) (hb : Below w.heap.size w w') : w'.ownsRow base e size v n xs := by
  refine ⟨h.1, ?_⟩
  rcases h.2 with hn | ⟨g, cap, cur, rfl, hbg, hgg, rest⟩
  · exact .inl hn
  · refine .inr ⟨g, cap, cur, rfl, hbg, ?_, rest⟩
    rw [hb.block g (Array.getElem?_eq_some_iff.1 hgg).1]
    exact hgg

/-- What is owned can be read. -/
theorem owns_row {w : World} {base : Nat} {v : Value} {l : List Nat} (h : w.ownsRow base 5 1 v l.length (l.map u8v)) :
    ∃ a cap, v = .slice a l.length cap ∧ BRow w a l ∧ l.length ≤ cap ∧ cap ≤ maxLen := by
  rcases h.2 with ⟨rfl, hn⟩ | ⟨g, cap, cur, rfl, hbg, hgg, hnc, hcm, hcs, htake⟩
  · have : l = [] := List.eq_nil_of_length_eq_zero hn
    subst this
    exact ⟨none, 0, rfl, .inl rfl, Nat.le_refl _, by decide⟩
  · refine ⟨_, cap, rfl, .inr ⟨g, 0, rfl, fun i hi => ?_⟩, hnc, hcm⟩
    have := h.cellAt i (by simpa using hi)
    simp only [Nat.zero_add]
    rw [this]
    simp [u8v, hi, List.getD]

theorem Below.after {w w1 w2 : World} (h : Below w.heap.size w w1) (h2 : Below w1.heap.size w1 w2) : Below w.heap.size w w2 :=
  h.trans (h2.mono h.size)

theorem Own.row {w w' : World} {v : Value} {l : List Nat} (h : Own w w' v l) : ∃ a cap, v = .slice a l.length cap ∧ BRow w' a l ∧ l.length ≤ cap ∧ cap ≤ maxLen := owns_row h.1

theorem info8 : (Try.prog.info? 5).map (fun i => (i.zero, i.size, i.bytes)) = some (some (.int .u8 0), 1, 1) := by kernel_rfl

/-- The bytes l of a row, cell by cell, as the laws on append and copy ask for them. -/
theorem BRow.cells {w : World} {b off : Nat} {l : List Nat} (hc : ∀ i, i < l.length → w.cell? ⟨b, off + i, none⟩ = some (.int .u8 ((l.getD i 0 : Nat) : Int))) :
    ∀ j u, (l.map u8v)[j]? = some u → w.cell? ((⟨b, off, none⟩ : Addr).add j) = some u := by
  intro j u hj
  have hjl : j < l.length := by
    have := (List.getElem?_eq_some_iff.1 hj).1
    simpa using this
  have := hc j hjl
  have hu : u = u8v (l.getD j 0) := by
    simp [hjl] at hj
    simp [← hj, List.getD, hjl]
  have e : (⟨b, off, none⟩ : Addr).add j = ⟨b, off + j, none⟩ := by unfold Addr.add; split <;> simp_all
  rw [e, this, hu]
  rfl
theorem u8v_one (l : List Nat) : ∀ u ∈ l.map u8v, u.oneCell' = true := by
  intro u hu
  simp only [List.mem_map] at hu
  obtain ⟨x, _, rfl⟩ := hu
  rfl
/-- The string of bytes. -/
def bstr (l : List Nat) : ByteArray := strOfNums (l.map fun x : Nat => (x : Int))
theorem bstr_inj {l m : List Nat} (hl : ∀ x ∈ l, x < 256) (hm : ∀ x ∈ m, x < 256) : (bstr l).data.toList = (bstr m).data.toList ↔ l = m := by
  constructor
  · intro h
    unfold bstr at h
    rw [strOfNums_data, strOfNums_data, List.map_map, List.map_map] at h
    have key : ∀ (a b : List Nat), (∀ x ∈ a, x < 256) → (∀ x ∈ b, x < 256) → a.map ((fun n : Int => UInt8.ofNat n.toNat) ∘ fun x : Nat => (x : Int)) = b.map ((fun n : Int => UInt8.ofNat n.toNat) ∘ fun x : Nat => (x : Int)) → a = b := by
      intro a
      induction a with
      | nil => intro b _ _ h; cases b with
        | nil => rfl
        | cons y b => simp at h
      | cons x a ih =>
        intro b ha hb h
        cases b with
        | nil => simp at h
        | cons y b =>
          simp only [List.map_cons, List.cons.injEq, Function.comp_apply, Int.toNat_natCast] at h
          have hx := ha x (by simp)
          have hy := hb y (by simp)
          have e : x = y := by
            have := congrArg UInt8.toNat h.1
            simpa [Nat.mod_eq_of_lt hx, Nat.mod_eq_of_lt hy] using this
          rw [e, ih b (fun z hz => ha z (by simp [hz])) (fun z hz => hb z (by simp [hz])) h.2]
    exact key l m hl hm h
  · rintro rfl; rfl

theorem bstr_eq {l m : List Nat} (hl : ∀ x ∈ l, x < 256) (hm : ∀ x ∈ m, x < 256) : ((bstr l).toList == (bstr m).toList) = decide (l = m) := by
  rw [Bool.eq_iff_iff, beq_iff_eq, decide_eq_true_iff, ByteArray.toList_eq, ByteArray.toList_eq]
  exact bstr_inj hl hm

theorem conv_row {w : World} {a : Option Addr} {l : List Nat} (cap : Nat) (hr : BRow w a l) :
    (convert 35 9 (.slice a l.length cap)).run Try.prog w = .ok (.string (bstr l)) w := by
  rcases hr with rfl | ⟨b, off, rfl, hc⟩
  · rw [run_convert_bytes_string w 35 9 5 a _ cap Try.underlying35 Try.underlying5 Try.underlying9]
    cases a with
    | none => simp [Conv.bytesToString, bstr, strOfNums]; rfl
    | some a => 
      rw [List.length_nil, run_bytesToString w a 0 cap [] (by simp [loadCells, loadCellsFrom])]
      rfl
  · refine run_convert_bytes_arg w 35 5 Try.underlying35 Try.underlying5 b off l.length cap (l.map fun x : Nat => (x : Int)) (by simp) (fun i hi => ?_) 9 Try.underlying9
    rw [hc i hi]
    simp [List.getD, hi]

set_option maxHeartbeats 400000 in
theorem same_any (a : Option Addr) (cap : Nat) (l : List Nat) (b : Option Addr) (cap2 : Nat) (m : List Nat) (w : World) (hl : ∀ x ∈ l, x < 256) (hm : ∀ x ∈ m, x < 256) (ha : BRow w a l) (hb : BRow w b m) :
    Calls Try.prog 40 #[.slice a l.length cap, .slice b m.length cap2] w fun e w' => e = .returned (.bool (decide (l = m))) ∧ w = w' := by
  have h1 := conv_row cap ha
  have h2 := conv_row cap2 hb
  have HI : Hid (((bstr l).toList == (bstr m).toList) = decide (l = m)) := bstr_eq hl hm
  clear ha hb hl hm
  go_enter Try.func40, Try.ntmps40
  go_wp2
  go_ret
  exact ⟨ret_bool HI.out, rfl⟩

/-- A block whose cells begin with cs. -/
def Row (W : World) (B : Nat) (cs : List Value) (t : TypeId) : Prop := ∃ rest : List Value, W.heap[B]? = some (.cells (cs ++ rest).toArray t (0, 0))
theorem Row.lt {W : World} {B : Nat} {cs : List Value} {t : TypeId} (h : Row W B cs t) : B < W.heap.size := by
  obtain ⟨r, h⟩ := h; exact (Array.getElem?_eq_some_iff.1 h).1
theorem Row.cell {W : World} {B i : Nat} {cs : List Value} {t : TypeId} {v : Value} (h : Row W B cs t) (hi : cs[i]? = some v) : W.cell? ⟨B, i, none⟩ = some v := by
  obtain ⟨r, h⟩ := h
  have hlt := (List.getElem?_eq_some_iff.1 hi).1
  simp only [World.cell?, h]
  simp [List.getElem?_append_left hlt, hi]
theorem Row.frozen {W : World} {B : Nat} {cs : List Value} {t : TypeId} (h : Row W B cs t) (i : Nat) : W.frozen? ⟨B, i, none⟩ = false := by
  obtain ⟨r, h⟩ := h
  simp [World.frozen?, h]
theorem Row.set {W : World} {B i : Nat} {cs : List Value} {t : TypeId} (v : Value) (h : Row W B cs t) (hi : i < cs.length) : Row (W.setCell ⟨B, i, none⟩ v) B (cs.set i v) t := by
  obtain ⟨r, h⟩ := h
  obtain ⟨hlt, hk⟩ := Array.getElem?_eq_some_iff.1 h
  refine ⟨r, ?_⟩
  show (W.heap.modify B _)[B]? = _
  rw [Array.getElem?_eq_getElem (by rw [Array.size_modify]; exact hlt), Array.getElem_modify_self, hk]
  simp [List.set_append_left _ _ hi]
theorem Row.same {W W' : World} {B : Nat} {cs : List Value} {t : TypeId} (h : Row W B cs t) (e : W'.heap[B]? = W.heap[B]?) : Row W' B cs t := by
  obtain ⟨r, h⟩ := h; exact ⟨r, e.trans h⟩
theorem Row.other {W : World} {B : Nat} {cs : List Value} {t : TypeId} (p : Addr) (v : Value) (h : Row W B cs t) (hne : B ≠ p.block) : Row (W.setCell p v) B cs t := h.same (Below.heap_setCell _ _ _ B hne)
theorem Row.setNew {w W : World} {B : Nat} {cs : List Value} {t : TypeId} (p : Addr) (v : Value) (h : Row W B cs t) (hB : B < w.heap.size) (hp : w.heap.size ≤ p.block) : Row (W.setCell p v) B cs t := h.other p v (by omega)
theorem Row.alloc {W : World} {B : Nat} {cs : List Value} {t : TypeId} (h : Row W B cs t) (o : Obj) : Row (W.alloc o) B cs t := h.same (Below.heap_alloc _ _ _ h.lt)
theorem Row.drew {W : World} {B : Nat} {cs : List Value} {t : TypeId} (h : Row W B cs t) : Row W.drew B cs t := h
theorem Row.drewN {W : World} {B : Nat} {cs : List Value} {t : TypeId} (h : Row W B cs t) (n : Nat) : Row (W.drewN n) B cs t := h
theorem Row.later {W W' : World} {B : Nat} {cs : List Value} {t : TypeId} (h : Row W B cs t) (hb : Below W.heap.size W W') : Row W' B cs t := h.same (hb.block B h.lt)
theorem Row.ne {W : World} {B C : Nat} {cs ds : List Value} {t u : TypeId} (h : Row W B cs t) (g : Row W C ds u) (hn : t ≠ u) : B ≠ C := by
  rintro rfl
  obtain ⟨r, h⟩ := h
  obtain ⟨s, g⟩ := g
  have := h.symm.trans g
  simp at this
  exact hn this.2
theorem Row.new (W : World) (cs : List Value) (t : TypeId) : Row (W.alloc (.cells cs.toArray t)) W.heap.size cs t := ⟨[], by show (W.heap.push _)[W.heap.size]? = _; simp⟩
theorem Row.of_owns {W : World} {base size n : Nat} {t : TypeId} {v : Value} {xs : List Value} (h : W.ownsRow base t size v n xs) (hn : 0 < n) : ∃ g cap, v = .slice (some ⟨g, 0, none⟩) n cap ∧ n ≤ cap ∧ cap ≤ maxLen ∧ base ≤ g ∧ Row W g xs t := by
  rcases h.2 with ⟨rfl, hn'⟩ | ⟨g, cap, cur, rfl, hbg, hgg, hnc, hcm, hcs, htake⟩
  · omega
  · refine ⟨g, cap, rfl, hnc, hcm, hbg, cur.toList.drop (n * size), ?_⟩
    rw [hgg, ← htake, List.take_append_drop]

/-- But for the blocks S all that there was is as it was. -/
structure Kept (S : Nat → Prop) (w w' : World) : Prop where
  os : w'.os = w.os
  tape : w'.tape = w.tape
  output : w'.output = w.output
  size : w.heap.size ≤ w'.heap.size
  block : ∀ k, k < w.heap.size → ¬ S k → w'.heap[k]? = w.heap[k]?
theorem Kept.refl (S : Nat → Prop) (w : World) : Kept S w w := ⟨rfl, rfl, rfl, Nat.le_refl _, fun _ _ _ => rfl⟩
theorem Kept.trans {S : Nat → Prop} {a b c : World} (h : Kept S a b) (k : Kept S b c) : Kept S a c :=
  ⟨k.os.trans h.os, k.tape.trans h.tape, k.output.trans h.output, Nat.le_trans h.size k.size, fun i hi hs => (k.block i (Nat.lt_of_lt_of_le hi h.size) hs).trans (h.block i hi hs)⟩
theorem Kept.mono {S T : Nat → Prop} {a b : World} (h : Kept S a b) (hs : ∀ k, S k → T k) : Kept T a b := ⟨h.os, h.tape, h.output, h.size, fun k hk hn => h.block k hk (fun x => hn (hs k x))⟩
theorem Kept.of_below {S : Nat → Prop} {a b : World} (h : Below a.heap.size a b) : Kept S a b := ⟨h.os, h.tape, h.output, h.size, fun k hk _ => h.block k hk⟩
theorem Kept.later {S : Nat → Prop} {a b c : World} (h : Kept S a b) (k : Below b.heap.size b c) : Kept S a c := h.trans (.of_below k)
theorem Kept.setCell {S : Nat → Prop} {a w : World} (h : Kept S a w) {p : Addr} (hp : S p.block) (u : Value) : Kept S a (w.setCell p u) :=
  h.trans ⟨rfl, rfl, rfl, by simp [World.setCell], fun k _ hn => Below.heap_setCell _ _ _ _ (fun e => hn (e ▸ hp))⟩
theorem Kept.setNew {S : Nat → Prop} {a w : World} (h : Kept S a w) {p : Addr} (hp : a.heap.size ≤ p.block) (u : Value) : Kept S a (w.setCell p u) :=
  ⟨h.os, h.tape, h.output, by have := h.size; simpa [World.setCell] using this, fun k hk hn => (Below.heap_setCell _ _ _ _ (by omega)).trans (h.block k hk hn)⟩
theorem Kept.alloc {S : Nat → Prop} {a w : World} (h : Kept S a w) (o : Obj) : Kept S a (w.alloc o) := h.trans ⟨rfl, rfl, rfl, by simp, fun k hk _ => Below.heap_alloc _ _ _ hk⟩
theorem Kept.drew {S : Nat → Prop} {a w : World} (h : Kept S a w) : Kept S a w.drew := ⟨h.os, h.tape, h.output, h.size, h.block⟩
theorem Kept.drewN {S : Nat → Prop} {a w : World} (h : Kept S a w) (n : Nat) : Kept S a (w.drewN n) := ⟨h.os, h.tape, h.output, h.size, h.block⟩
theorem Kept.below {S : Nat → Prop} {B : Nat} {a b : World} (h : Kept S a b) (hB : B ≤ a.heap.size) (hs : ∀ k, S k → B ≤ k) : Below B a b :=
  ⟨h.os, h.tape, h.output, h.size, fun k hk => h.block k (by omega) (fun x => by have := hs k x; omega)⟩
theorem Row.kept {S : Nat → Prop} {W W' : World} {B : Nat} {cs : List Value} {t : TypeId} (h : Row W B cs t) (hk : Kept S W W') (hn : ¬ S B) : Row W' B cs t := h.same (hk.block B h.lt hn)

theorem below_new (w : World) (o : Obj) : Below w.heap.size w (w.alloc o) := (Below.refl _ w).alloc (Nat.le_refl _) _
theorem below_drawn (w : World) (n : Nat) : Below w.heap.size w (w.drewN n) := by
  induction n with
  | zero => exact Below.refl _ _
  | succ n ih => exact (ih.drew)

/-- Cells laid one behind the other, n to each. -/
theorem flat_len {α : Type} (f : α → List Value) (n : Nat) (hf : ∀ x, (f x).length = n) : ∀ l : List α, (l.flatMap f).length = l.length * n
  | [] => by simp
  | x :: l => by rw [List.flatMap_cons, List.length_append, flat_len f n hf l, hf, List.length_cons, Nat.succ_mul, Nat.add_comm]
theorem flat_get {α : Type} (f : α → List Value) (n : Nat) (hf : ∀ x, (f x).length = n) (k : Nat) (hk : k < n) : ∀ (l : List α) (i : Nat) (x : α), l[i]? = some x → (l.flatMap f)[i * n + k]? = (f x)[k]?
  | [], i, x, h => by simp at h
  | y :: l, 0, x, h => by
    simp at h; subst h
    rw [List.flatMap_cons, Nat.zero_mul, Nat.zero_add, List.getElem?_append_left (by rw [hf]; exact hk)]
  | y :: l, i + 1, x, h => by
    rw [List.flatMap_cons, List.getElem?_append_right (by rw [hf, Nat.succ_mul]; omega), hf, show (i + 1) * n + k - n = i * n + k by rw [Nat.succ_mul]; omega]
    exact flat_get f n hf k hk l i x (by simpa using h)
theorem flat_set {α : Type} (f : α → List Value) (n : Nat) (hf : ∀ x, (f x).length = n) (k : Nat) (hk : k < n) (v : Value) (x' : α) : ∀ (l : List α) (i : Nat) (x : α), l[i]? = some x → (f x).set k v = f x' → (l.flatMap f).set (i * n + k) v = (l.set i x').flatMap f
  | [], i, x, h, _ => by simp at h
  | y :: l, 0, x, h, e => by
    simp at h; subst h
    rw [List.flatMap_cons, Nat.zero_mul, Nat.zero_add, List.set_append_left _ _ (by rw [hf]; exact hk), e, List.set_cons_zero, List.flatMap_cons]
  | y :: l, i + 1, x, h, e => by
    rw [List.flatMap_cons, List.set_append_right _ _ (by rw [hf, Nat.succ_mul]; omega), hf, show (i + 1) * n + k - n = i * n + k by rw [Nat.succ_mul]; omega, List.set_cons_succ, List.flatMap_cons]
    rw [flat_set f n hf k hk v x' l i x (by simpa using h) e]

/-- A page: its state, and its data. -/
structure Pg where
  st : Int
  data : List Nat
/-- A block: where its pages stand, and what is known of it. -/
structure Bk where
  r : Nat
  cap : Nat
  pgs : List Pg
  next : Int
  erases : Int
  bad : Bool
/-- A fault of a plan. -/
structure Flt where
  num : Int
  kind : Int
  torn : Int
/-- A chip. -/
structure CS where
  p : Nat
  q : Nat
  qcap : Nat
  gb : Nat
  gp : Nat
  gz : Nat
  gr : Nat
  bks : List Bk
  on : Bool
  ops : Int
  wrong : Int
  steps : Int
  fs : List Flt
def pgCells (p : Pg) : List Value := [.int .i64 p.st, .string (bstr p.data)]
def bkCells (b : Bk) : List Value := [.slice (some ⟨b.r, 0, none⟩) b.pgs.length b.cap, .int .i64 b.next, .int .i64 b.erases, .bool b.bad]
def flCells (f : Flt) : List Value := [.int .i64 f.num, .int .i64 f.kind, .int .i64 f.torn]
def csCells (c : CS) (fa : Option Addr) (fc : Nat) : List Value :=
  [.int .i64 c.gb, .int .i64 c.gp, .int .i64 c.gz, .int .i64 c.gr, .slice (some ⟨c.q, 0, none⟩) c.bks.length c.qcap, .bool c.on, .int .i64 c.ops, .int .i64 c.wrong, .slice fa c.fs.length fc, .int .i64 c.steps]
theorem pg_len (p : Pg) : (pgCells p).length = 2 := rfl
theorem bk_len (b : Bk) : (bkCells b).length = 4 := rfl
theorem fl_len (f : Flt) : (flCells f).length = 3 := rfl
/-- Faults, as they lie. -/
def FRow (w : World) (a : Option Addr) (l : List Flt) : Prop :=
  l = [] ∨ ∃ b off, a = some ⟨b, off, none⟩ ∧ ∀ i f, l[i]? = some f → w.cell? ⟨b, off + i * 3, none⟩ = some (.int .i64 f.num) ∧ w.cell? ⟨b, off + i * 3 + 1, none⟩ = some (.int .i64 f.kind) ∧ w.cell? ⟨b, off + i * 3 + 2, none⟩ = some (.int .i64 f.torn)
/-- The blocks of memory that are the chip's own to write. -/
def CS.foot (c : CS) (k : Nat) : Prop := k = c.p ∨ k = c.q ∨ k ∈ c.bks.map Bk.r
/-- The chip lies in memory, all of it from base on. -/
structure Rep (base : Nat) (w : World) (c : CS) : Prop where
  chip : ∃ fa fc, Row w c.p (csCells c fa fc) 52 ∧ c.fs.length ≤ fc ∧ fc ≤ maxLen ∧ (c.fs = [] ∨ ∃ b off, fa = some ⟨b, off, none⟩ ∧ ∃ cs, Row w b cs 78) ∧ FRow w fa c.fs
  bks : Row w c.q (c.bks.flatMap bkCells) 57
  pgs : ∀ b ∈ c.bks, Row w b.r (b.pgs.flatMap pgCells) 75
  nd : (c.bks.map Bk.r).Nodup
  low : ∀ k, c.foot k → base ≤ k
  len : c.bks.length = c.gb
  plen : ∀ b ∈ c.bks, b.pgs.length = c.gp ∧ c.gp ≤ b.cap ∧ b.cap ≤ maxLen
  qc : c.gb ≤ c.qcap ∧ c.qcap ≤ maxLen
  gs : 1 ≤ c.gb ∧ c.gb ≤ 256 ∧ 1 ≤ c.gp ∧ c.gp ≤ 64 ∧ 1 ≤ c.gz ∧ c.gz ≤ 512
  dat : ∀ b ∈ c.bks, ∀ p ∈ b.pgs, p.data.length ≤ c.gz ∧ ∀ x ∈ p.data, x < 256
end Go.Proofs.Ytiejkbncpbhcdaa
