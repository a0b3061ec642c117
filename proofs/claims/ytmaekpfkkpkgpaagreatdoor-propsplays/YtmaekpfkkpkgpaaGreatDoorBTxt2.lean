/-
  Text, as it runs.
-/
import Derived.Test.YtmaekpfkkpkgpaaGreatDoorBText
import Derived.RangeFuncBox
import Derived.Deep.RegionHeld3
import Derived.Deep.RegionWith
namespace Go.Proofs.YtmaekpfkkpkgpaaGreatDoor
open Go.RowKit Go.Shelf
set_option maxRecDepth 10000

def closedT : List UInt8 := [32, 99, 108, 111, 115, 101, 100]
/-- A block's line. -/
def rowT (i : Nat) (x : PB) : List UInt8 := if x.use = 0 then [] else lineF [(i : Int), x.use, x.used, x.live] ++ (if x.closed = true then closedT else []) ++ [10]
def rowsT : Nat → List PB → List UInt8
  | _, [] => []
  | k, x :: l => rowT k x ++ rowsT (k + 1) l
/-- A book's text. -/
def textF (size : Int) (l : List PB) : List UInt8 := lineF [(l.length : Int), size] ++ [10] ++ rowsT 0 l
theorem rowsT_snoc (x : PB) : ∀ (l : List PB) (k : Nat), rowsT k (l ++ [x]) = rowsT k l ++ rowT (k + l.length) x
  | [], k => by simp [rowsT]
  | y :: l, k => by
    show rowT k y ++ rowsT (k + 1) (l ++ [x]) = rowT k y ++ rowsT (k + 1) l ++ rowT (k + (l.length + 1)) x
    rw [rowsT_snoc x l (k + 1), List.append_assoc, show k + 1 + l.length = k + (l.length + 1) by omega]
theorem rowT_len {size : Int} {x : PB} (h : x.Ok size) (hs : size ≤ 16777216) (i : Nat) (hi : i ≤ 16777216) : (rowT i x).length ≤ 44 := by
  unfold rowT
  have h1 := h.use0
  have h2 := h.use3
  have h3 := h.l0
  have h4 := h.lu
  have h5 := h.us
  split
  · simp
  · have := line_len (ns := [(i : Int), x.use, x.used, x.live]) (fun y hy => by
      simp at hy
      rcases hy with rfl | rfl | rfl | rfl <;> constructor <;> omega)
    simp only [List.length_append, List.length_cons, List.length_nil] at this ⊢
    split
    · simp [closedT]; omega
    · simp; omega
theorem rowsT_len {size : Int} (hs : size ≤ 16777216) : ∀ (l : List PB) (k : Nat), AllOk size l → k + l.length ≤ 16777216 → (rowsT k l).length ≤ 44 * l.length
  | [], _, _, _ => by simp [rowsT]
  | x :: l, k, h, hk => by
    simp only [List.length_cons] at hk
    have h1 := rowT_len (h x (by simp)) hs k (by omega)
    have h2 := rowsT_len hs l (k + 1) (fun y hy => h y (List.mem_cons_of_mem _ hy)) (by omega)
    simp only [rowsT, List.length_append, List.length_cons]
    omega
theorem bs_append (a b : List UInt8) : bs a ++ bs b = bs (a ++ b) := by
  unfold bs
  apply ByteArray.ext
  simp
theorem builder_later {T e B b : Nat} {v : Value} {l : List Value} {w W : World} (h : Lib.BuilderAt T e B b v l w) (hb : Below w.heap.size w W) : Lib.BuilderAt T e B b v l W := by
  obtain ⟨h1, u, h2, h3, h4⟩ := h
  exact ⟨h1, u, (hb.block b (Array.getElem?_eq_some_iff.1 h2).1).trans h2, owns_later h3 hb, h4⟩
theorem isB_later {T e B b : Nat} {l : List Value} {w W : World} (h : Lib.IsBuilder T e B b l w) (hb : Below w.heap.size w W) : Lib.IsBuilder T e B b l W := h.imp (builder_later · hb) (builder_later · hb)
/-- A builder that holds these bytes. -/
def Bd (w0 : World) (l : List UInt8) (w : World) : Prop := Lib.IsBuilder 71 5 w0.heap.size w0.heap.size (Lib.byteCells l) w ∧ Below w0.heap.size w0 w
theorem Bd.later {w0 w W : World} {l : List UInt8} (h : Bd w0 l w) (hb : Below w.heap.size w W) : Bd w0 l W := ⟨isB_later h.1 hb, Below.after h.2 hb⟩
theorem Bd.new (w : World) : Bd w [] (w.alloc (.cells #[.pointer none, .slice none 0 0] 71)) :=
  ⟨.inl ⟨Nat.le_refl _, .slice none 0 0, World.alloc_heap_new w _, World.ownsRow_nil _ _ _ _, by simp [Value.ownBlock]⟩, below_new _ _⟩
theorem Bd.write {w0 w : World} {l : List UInt8} (h : Bd w0 l w) (s : ByteArray) (hl : l.length + s.size ≤ 140737488355328) :
    Calls Tryz.prog 40 #[.pointer (some ⟨w0.heap.size, 0, none⟩), .string s] w fun e w' => ∃ v, e = .returned v ∧ Bd w0 (l ++ s.data.toList) w' ∧ ∀ k cs t, t ≠ 5 → k ≠ w0.heap.size → Row w k cs t → Row w' k cs t := by
  refine (write_any w0.heap.size w0.heap.size _ s w h.1 (by rw [Lib.byteCells_length]; exact hl) h.2.size).mono ?_
  rintro e w' ⟨rfl, ⟨h1, h2⟩, h3⟩
  refine ⟨_, rfl, ⟨?_, h.2.trans h2⟩, h3⟩
  right
  have e1 : Lib.byteCells l ++ Lib.strCells s = Lib.byteCells (l ++ s.data.toList) := by rw [Lib.strCells_eq]; unfold Lib.byteCells; rw [List.map_append]
  rw [← e1]
  exact h1
theorem Bd.string {w0 w : World} {l : List UInt8} (h : Bd w0 l w) :
    Calls Tryz.prog 43 #[.pointer (some ⟨w0.heap.size, 0, none⟩)] w fun e w' => e = .returned (.string (bs l)) ∧ Below w0.heap.size w0 w' := by
  refine (Tryz.Builder_String_any w0.heap.size w0.heap.size l w h.1 h.2.size).mono ?_
  rintro e w' ⟨rfl, hb⟩
  exact ⟨rfl, h.2.trans hb⟩
theorem text_nil (w : World) : Calls Tryz.prog 12 #[.pointer none] w fun e w' => e = .returned (.string ⟨#[]⟩) ∧ w = w' := by
  go_enter Tryz.func12, Tryz.ntmps12
  go_wp2
  go_ret
  exact ⟨rfl, rfl⟩
theorem line4 (a b c d : Int) (W : World) (hp : Pows W) (h1 : 0 ≤ a ∧ a ≤ 16777216) (h2 : 0 ≤ b ∧ b ≤ 16777216) (h3 : 0 ≤ c ∧ c ≤ 16777216) (h4 : 0 ≤ d ∧ d ≤ 16777216) :
    Calls Tryz.prog 41 #[.slice (some ⟨W.heap.size, 0, none⟩) 4 4] (W.alloc (.cells #[.int .i64 a, .int .i64 b, .int .i64 c, .int .i64 d] 3)) fun e w' => e = .returned (.string (bs (lineF [a, b, c, d]))) ∧ Below W.heap.size W w' := by
  refine (line_any W.heap.size 4 [a, b, c, d] _ (Row.new W [.int .i64 a, .int .i64 b, .int .i64 c, .int .i64 d] 3) (by simp) (by simp) (fun y hy => by
    simp at hy
    rcases hy with rfl | rfl | rfl | rfl <;> assumption) (hp.later (below_new _ _))).mono ?_
  rintro e w' ⟨rfl, hb⟩
  exact ⟨rfl, Below.after (below_new _ _) hb⟩
theorem line4_len {a b c d : Int} (h1 : 0 ≤ a ∧ a ≤ 16777216) (h2 : 0 ≤ b ∧ b ≤ 16777216) (h3 : 0 ≤ c ∧ c ≤ 16777216) (h4 : 0 ≤ d ∧ d ≤ 16777216) : (bs (lineF [a, b, c, d])).size ≤ 36 := by
  rw [bs_size]
  have := line_len (ns := [a, b, c, d]) (fun y hy => by
    simp at hy
    rcases hy with rfl | rfl | rfl | rfl <;> assumption)
  simpa using this
theorem bl_len (S : ByteArray) : S.data.toList.length = S.size := rfl
/-- What the walk of Text has at hand: the book lies, the table too. -/
structure Tx (p q cap : Nat) (size : Int) (l : List PB) (w : World) : Prop where
  bk : BLies w p q cap size l
  pw : Pows w
theorem Tx.later {p q cap : Nat} {size : Int} {l : List PB} {w W : World} (h : Tx p q cap size l w) (hb : Below w.heap.size w W) : Tx p q cap size l W := ⟨h.bk.later hb, h.pw.later hb⟩
set_option maxHeartbeats 4000000 in
theorem text_any {p q cap : Nat} {size : Int} {l : List PB} {w : World} (h : Tx p q cap size l w) (hO : AllOk size l) (hs0 : 0 ≤ size) (hs : size ≤ 16777216) (hn : l.length ≤ 256) :
    Calls Tryz.prog 12 #[.pointer (some ⟨p, 0, none⟩)] w fun e w' => e = .returned (.string (bs (textF size l))) ∧ Below w.heap.size w w' := by
  obtain ⟨m, hm⟩ : ∃ m, m = l.length := ⟨_, rfl⟩
  obtain ⟨X, hX⟩ : ∃ X, X = w.alloc (.cells #[.pointer none, .slice none 0 0] 71) := ⟨_, rfl⟩
  have hbX : Below w.heap.size w X := by rw [hX]; exact below_new _ _
  have hB := hidW (show Bd w [] X by rw [hX]; exact Bd.new w)
  have hT := hidW (h.later hbX)
  have c0 := (h.later hbX).bk.box.cell (i := 0) rfl
  have c1 := (h.later hbX).bk.box.cell (i := 1) rfl
  rw [← hm] at c1
  have HO := hidW hO
  have HM := hidW hm
  have HS := hidW (And.intro hs0 hs)
  have hm256 : m ≤ 256 := by omega
  have HH := hidW h
  clear h hO hm hbX hs0 hs hn
  go_enter Tryz.func12, Tryz.ntmps12
  go_wp2_with fail
  rw [← hX]
  clear hX
  have hln := hidW (show Calls Tryz.prog 41 #[.slice (some ⟨X.heap.size, 0, none⟩) 2 2] (X.alloc (.cells #[.int .i64 (m : Int), .int .i64 size] 3)).drew fun e w' => e = .returned (.string (bs (lineF [(m : Int), size]))) ∧ Below (X.alloc (.cells #[.int .i64 (m : Int), .int .i64 size] 3)).drew.heap.size (X.alloc (.cells #[.int .i64 (m : Int), .int .i64 size] 3)).drew w' from line_any X.heap.size 2 [(m : Int), size] _ ((Row.new X [.int .i64 (m : Int), .int .i64 size] 3).drew) (by simp) (by simp) (fun y hy => by
    have := HS.out
    simp at hy
    rcases hy with rfl | rfl <;> constructor <;> omega) (hT.out.pw.later (below_new _ _).drew))
  have hlb : (lineF [(m : Int), size]).length ≤ 18 := by
    have := line_len (ns := [(m : Int), size]) (fun y hy => by
      have := HS.out
      simp at hy
      rcases hy with rfl | rfl <;> constructor <;> omega)
    simpa using this
  have HLB := hidW hlb
  clear hlb
  obtain ⟨S, hS⟩ : ∃ S, S = bs (lineF [(m : Int), size]) := ⟨_, rfl⟩
  have hSz : S.size ≤ 18 := by rw [hS, bs_size]; exact HLB.out
  have HSe := hidW hS
  rw [← hS] at hln
  have hc1 : ¬ 9223372036854775807 < S.size + 1 := by omega
  have hx9 := hidW (show ([] : List UInt8).length + (S ++ ⟨#[10]⟩ : ByteArray).size ≤ 140737488355328 from by
    rw [ByteArray.size_append, show (⟨#[10]⟩ : ByteArray).size = 1 from rfl, show ([] : List UInt8).length = 0 from rfl]
    omega)
  clear hS
  go_region_held3 (fun w' => w'.cell? ⟨p, 0, none⟩ = some (.int .i64 size) ∧ w'.cell? ⟨p, 1, none⟩ = some (.slice (some ⟨q, 0, none⟩) m cap)) (first | assumption | go_keep) (first
    | (go_at_call 41; refine hln.out.mono ?_; rintro e w1 ⟨rfl, hb1⟩; have hb0 := Below.after (below_new X _).drew hb1; have T1 := hT.out.later hb0; have a0 := T1.bk.box.cell (i := 0) rfl; have a1 := T1.bk.box.cell (i := 1) rfl; rw [← HM.out] at a1; have HT1 := hidW T1; have HB1 := hidW (hB.out.later hb0); clear hb1 hb0 T1)
    | (go_at_call 40; refine (HB1.out.write _ hx9.out).mono ?_; rintro e w2 ⟨v, rfl, hb2, _⟩; have T2 := HH.out.later hb2.2; have g0 := T2.bk.box.cell (i := 0) rfl; have g1 := T2.bk.box.cell (i := 1) rfl; rw [← HM.out] at g1; have HT2 := hidW T2; have HB2 := hidW hb2; clear hb2 T2))
  have e9 : ([] ++ (S ++ ⟨#[10]⟩ : ByteArray).data.toList) = lineF [(m : Int), size] ++ [10] ++ rowsT 0 (l.take 0) := by
    rw [HSe.out, show (⟨#[10]⟩ : ByteArray) = bs [10] from rfl, bs_append]
    simp [bs, rowsT]
  have HB3 := hidW (show Bd w (lineF [(m : Int), size] ++ [10] ++ rowsT 0 (l.take 0)) w2 by rw [← e9]; exact HB2.out)
  clear e9 HB2 hx9 hc1 hSz HSe hln HT1 HB1 a0 a1 c0 c1 hB hT
  go_wp2_with fail
  go_loopw [26] (fun s26 wr => ∃ k : Nat, s26 = .int .i64 (k : Int) ∧ k ≤ m ∧ Hid (Bd w (lineF [(m : Int), size] ++ [10] ++ rowsT 0 (l.take k)) wr)) (fun s26 _ => m - (intOf s26).toNat)
  case atStart => exact ⟨0, rfl, by omega, HB3⟩
  case round =>
    obtain ⟨k, rfl, hk, HK⟩ := hrel
    by_cases hkl : k < m
    · have hkn : k < l.length := by rw [← HM.out]; exact hkl
      have hg := List.getElem?_eq_getElem hkn
      obtain ⟨x, hx⟩ : ∃ x, x = l[k] := ⟨_, rfl⟩
      rw [← hx] at hg
      have hok := HO.out x (List.mem_of_getElem? hg)
      obtain ⟨acc, hacc⟩ : ∃ acc, acc = lineF [(m : Int), size] ++ [10] ++ rowsT 0 (l.take k) := ⟨_, rfl⟩
      have hal : acc.length ≤ 20000 := by
        have h1 := HLB.out
        have h2 := rowsT_len HS.out.2 (l.take k) 0 (fun y hy => HO.out y (List.mem_of_mem_take hy)) (by simp; omega)
        rw [hacc]
        simp only [List.length_append, List.length_cons, List.length_nil, List.length_take] at h2 ⊢
        omega
      have hnext : lineF [(m : Int), size] ++ [10] ++ rowsT 0 (l.take (k + 1)) = acc ++ rowT k x := by
        rw [hacc, List.take_add_one, hg]
        simp only [Option.toList]
        rw [rowsT_snoc, List.length_take, Nat.zero_add, show min k l.length = k by omega, ← List.append_assoc]
      rw [← hacc] at HK
      have HNx := hidW hnext
      have T := HH.out.later HK.out.2
      obtain ⟨c0, c1, c2, c3⟩ := T.bk.at hg
      have hq := T.bk.row.lt
      have hlt : (k : Int) < (m : Int) := by omega
      have hk0 : ¬ (k : Int) < 0 := by omega
      have HKL := hidW hkl
      have hbN := below_new wr (.cells #[.int .i64 x.use, .int .i64 x.used, .int .i64 x.live, .bool x.closed] 54)
      have hRN := Row.new wr [.int .i64 x.use, .int .i64 x.used, .int .i64 x.live, .bool x.closed] 54
      obtain ⟨Y, hY⟩ : ∃ Y, Y = wr.alloc (.cells #[.int .i64 x.use, .int .i64 x.used, .int .i64 x.live, .bool x.closed] 54) := ⟨_, rfl⟩
      have HBN := hidW (show Below wr.heap.size wr Y by rw [hY]; exact hbN)
      have HRN := hidW (show Row Y wr.heap.size [.int .i64 x.use, .int .i64 x.used, .int .i64 x.live, .bool x.closed] 54 by rw [hY]; exact hRN)
      have kF := free_any x.use x.used x.live x.closed Y
      have y0 : Y.cell? ⟨wr.heap.size, 0, none⟩ = some (.int .i64 x.use) := HRN.out.cell (i := 0) rfl
      have y1 : Y.cell? ⟨wr.heap.size, 1, none⟩ = some (.int .i64 x.used) := HRN.out.cell (i := 1) rfl
      have y2 : Y.cell? ⟨wr.heap.size, 2, none⟩ = some (.int .i64 x.live) := HRN.out.cell (i := 2) rfl
      have y3 : Y.cell? ⟨wr.heap.size, 3, none⟩ = some (.bool x.closed) := HRN.out.cell (i := 3) rfl
      clear hkl hkn hx hacc hnext T hbN hRN
      go_wp2_with fail
      rw [← hY]
      clear hY
      have b1 := hok.use0
      have b2 := hok.use3
      have b3 := hok.l0
      have b4 := hok.lu
      have b5 := hok.us
      have b6 := HS.out
      have hbd1 : 0 ≤ (k : Int) ∧ (k : Int) ≤ 16777216 := by omega
      have hbd2 : 0 ≤ x.use ∧ x.use ≤ 16777216 := by omega
      have hbd3 : 0 ≤ x.used ∧ x.used ≤ 16777216 := by omega
      have hbd4 : 0 ≤ x.live ∧ x.live ≤ 16777216 := by omega
      have hSl := line4_len hbd1 hbd2 hbd3 hbd4
      have HL4 := hidW (fun W hp => line4 (k : Int) x.use x.used x.live W hp hbd1 hbd2 hbd3 hbd4)
      clear b1 b2 b3 b4 b5 b6 hbd1 hbd2 hbd3 hbd4 hok
      obtain ⟨S2, hS2⟩ : ∃ S2, S2 = bs (lineF [(k : Int), x.use, x.used, x.live]) := ⟨_, rfl⟩
      rw [← hS2] at hSl HL4
      have HS2 := hidW hS2
      clear hS2
      by_cases h0 : x.use = 0
      · rw [decide_eq_true h0] at kF
        have e0 : rowT k x = [] := by unfold rowT; rw [if_pos h0]
        have HE0 := hidW e0
        clear h0 e0
        refine kF.mono ?_
        rintro e W1 ⟨rfl, hb1⟩
        have HB4 := hidW (Below.after HBN.out hb1)
        clear hb1
        go_wp2
        go_roundw
        case rel =>
          refine ⟨k + 1, by go_num, HKL.out, ?_⟩
          show Bd _ _ _
          rw [HNx.out, HE0.out, List.append_nil]
          exact HK.out.later HB4.out
        case measure => simp [intOf]; have := HKL.out; omega
      · rw [decide_eq_false h0] at kF
        have e0 : rowT k x = S2.data.toList ++ (if x.closed = true then closedT else []) ++ [10] := by unfold rowT; rw [if_neg h0, HS2.out]; rfl
        have HE0 := hidW e0
        clear h0 e0
        refine kF.mono ?_
        rintro e W1 ⟨rfl, hb1⟩
        have hb2 := Below.after HBN.out hb1
        have r1 := HRN.out.later hb1
        have z0 : W1.cell? ⟨wr.heap.size, 0, none⟩ = some (.int .i64 x.use) := r1.cell (i := 0) rfl
        have z1 : W1.cell? ⟨wr.heap.size, 1, none⟩ = some (.int .i64 x.used) := r1.cell (i := 1) rfl
        have z2 : W1.cell? ⟨wr.heap.size, 2, none⟩ = some (.int .i64 x.live) := r1.cell (i := 2) rfl
        have z3 : W1.cell? ⟨wr.heap.size, 3, none⟩ = some (.bool x.closed) := r1.cell (i := 3) rfl
        have HR1 := hidW r1
        have kL := HL4.out W1 (HH.out.later (Below.after HK.out.2 hb2)).pw
        have HB4 := hidW hb2
        have HNE := hidW (show wr.heap.size ≠ w.heap.size from by have := HK.out.1; rcases this with h | h <;> (have := h.lt; omega))
        have HA1 := hidW (show acc.length + S2.size ≤ 140737488355328 by omega)
        have HA2 := hidW (show (acc ++ S2.data.toList).length + (⟨#[32, 99, 108, 111, 115, 101, 100]⟩ : ByteArray).size ≤ 140737488355328 from by
          rw [List.length_append, bl_len, show (⟨#[32, 99, 108, 111, 115, 101, 100]⟩ : ByteArray).size = 7 from rfl]; omega)
        have HA3 := hidW (show (acc ++ S2.data.toList ++ (⟨#[32, 99, 108, 111, 115, 101, 100]⟩ : ByteArray).data.toList).length + (⟨#[10]⟩ : ByteArray).size ≤ 140737488355328 from by
          rw [List.length_append, List.length_append, bl_len, bl_len, show (⟨#[32, 99, 108, 111, 115, 101, 100]⟩ : ByteArray).size = 7 from rfl, show (⟨#[10]⟩ : ByteArray).size = 1 from rfl]; omega)
        have HA4 := hidW (show (acc ++ S2.data.toList).length + (⟨#[10]⟩ : ByteArray).size ≤ 140737488355328 from by
          rw [List.length_append, bl_len, show (⟨#[10]⟩ : ByteArray).size = 1 from rfl]; omega)
        clear hb1 hb2 r1 y0 y1 y2 y3 c0 c1 c2 c3
        have hclo := x.closed.eq_false_or_eq_true
        by_cases hcl : x.closed = true
        · rw [if_pos hcl] at HE0
          rw [hcl] at z3 HR1
          clear hcl hclo
          go_wp2_with (first
            | (go_at_call 41; refine kL.mono ?_; rintro e W2 ⟨rfl, hb3⟩; have r2 := HR1.out.later hb3; have t3 : W2.cell? ⟨wr.heap.size, 3, none⟩ = some (.bool true) := r2.cell (i := 3) rfl; have HR2 := hidW r2; have HB5 := hidW (HK.out.later (Below.after HB4.out hb3)); clear hb3 r2 z0 z1 z2 z3)
            | (go_at_call 40; refine (HB5.out.write _ HA1.out).mono ?_; clear HA1; rintro e W3 ⟨v3, rfl, hb6, hr6⟩; have s3 : W3.cell? ⟨wr.heap.size, 3, none⟩ = some (.bool true) := (hr6 _ _ _ (by decide) HNE.out HR2.out).cell (i := 3) rfl; have HB6 := hidW hb6; clear hb6 hr6 t3)
            | (go_at_call 40; refine (HB6.out.write _ HA2.out).mono ?_; clear HA2; rintro e W4 ⟨v4, rfl, hb7, _⟩; have HB7 := hidW hb7; clear hb7)
            | (go_at_call 40; refine (HB7.out.write _ HA3.out).mono ?_; clear HA3; rintro e W5 ⟨v5, rfl, hb8, _⟩; have HB8 := hidW hb8; clear hb8))
          go_roundw
          case rel =>
            refine ⟨k + 1, by go_num, HKL.out, ?_⟩
            show Bd _ _ _
            rw [HNx.out, HE0.out]
            have := HB8.out
            simp only [List.append_assoc] at this ⊢
            exact this
          case measure => simp [intOf]; have := HKL.out; omega
        · rw [if_neg hcl] at HE0
          have hcf : x.closed = false := by cases h : x.closed; rfl; exact absurd h hcl
          rw [hcf] at z3 HR1
          clear hcl hclo hcf
          go_wp2_with (first
            | (go_at_call 41; refine kL.mono ?_; rintro e W2 ⟨rfl, hb3⟩; have r2 := HR1.out.later hb3; have t3 : W2.cell? ⟨wr.heap.size, 3, none⟩ = some (.bool false) := r2.cell (i := 3) rfl; have HR2 := hidW r2; have HB5 := hidW (HK.out.later (Below.after HB4.out hb3)); clear hb3 r2 z0 z1 z2 z3)
            | (go_at_call 40; refine (HB5.out.write _ HA1.out).mono ?_; clear HA1; rintro e W3 ⟨v3, rfl, hb6, hr6⟩; have s3 : W3.cell? ⟨wr.heap.size, 3, none⟩ = some (.bool false) := (hr6 _ _ _ (by decide) HNE.out HR2.out).cell (i := 3) rfl; have HB6 := hidW hb6; clear hb6 hr6 t3)
            | (go_at_call 40; refine (HB6.out.write _ HA4.out).mono ?_; clear HA4; rintro e W4 ⟨v4, rfl, hb7, _⟩; have HB7 := hidW hb7; clear hb7))
          go_roundw
          case rel =>
            refine ⟨k + 1, by go_num, HKL.out, ?_⟩
            show Bd _ _ _
            rw [HNx.out, HE0.out, List.append_nil]
            have := HB7.out
            simp only [List.append_assoc] at this ⊢
            exact this
          case measure => simp [intOf]; have := HKL.out; omega
    · have hlt : ¬ (k : Int) < (m : Int) := by omega
      have kS := HK.out.string
      have e1 : lineF [(m : Int), size] ++ [10] ++ rowsT 0 (l.take k) = textF size l := by
        unfold textF
        rw [← HM.out, List.take_of_length_le (by rw [← HM.out]; omega)]
      rw [e1] at kS
      clear e1 hkl
      go_wp2_with (go_at_call 43; refine kS.mono ?_; rintro e W2 ⟨rfl, hb3⟩; have HB5 := hidW hb3; clear hb3)
      go_ret
      exact ⟨rfl, HB5.out⟩
end Go.Proofs.YtmaekpfkkpkgpaaGreatDoor
