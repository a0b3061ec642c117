/-
  What is read of a page.
-/
import Derived.Test.YtiejkbncpbhcdaaCRep
import Derived.Lib.LazyBuf
namespace Go.Proofs.Ytiejkbncpbhcdaa
open Go.RowKit

theorem wpList_copy_str {w : World} {ops : Array Oper} {rest : List Oper} {o : Oper} {a : Act} {Q : Exit → Act → World → Prop} (hgd : o.guard = none) (d s : Operand)
    (ho : o.op = .call { callee := .builtin .copy, args := #[d, s], argTypes := #[35, 9] })
    (g n c : Nat) (t : ByteArray) (hd : a.eval d = .slice (some ⟨g, 0, none⟩) n c) (hs : a.eval s = .string t) (hle : t.size ≤ n) (cs : List Value) (hcs : cs.length = n) (hr : Row w g cs 5) (B : Nat) (w0 : World) (hb : Below B w0 w) (hBg : B ≤ g)
    (h : ∀ w', Hid (Row w' g (splice cs 0 (t.data.toList.map fun x => Value.int .u8 (x.toNat : Int))) 5) → Below B w0 w' → wpList Try.prog ops Q rest (a.put o.dst (goInt t.size)) w') : wpList Try.prog ops Q (o :: rest) a w := by
  refine wpList_plain hgd fun K hK => ?_
  have hl : t.data.toList.length = t.size := Array.length_toList
  have hrun := run_copy_string (P := Try.prog) w 35 9 o.type 5 g 0 n c t Try.underlying35 Try.sizeOf5 hle
    (fun j hj => by rw [Nat.zero_add, hr.cell (List.getElem?_eq_getElem (show j < cs.length by omega))]; rfl) (fun j _ => hr.frozen _)
  unfold Oper.wp
  simp [execOp, ho, resolve, invoke, builtin, hd, hs, hrun, Result.andThen]
  refine hK _ _ (h _ (Row.setCells _ 0 w cs hr (by simp only [List.length_map, hl]; omega)) (below_setCells hBg _ _ _ hb))

theorem bstr_cells (l : List Nat) (h : ∀ x ∈ l, x < 256) : (bstr l).data.toList.map (fun x => Value.int .u8 (x.toNat : Int)) = l.map u8v := by
  unfold bstr
  rw [strOfNums_data, List.map_map, List.map_map]
  refine List.map_congr_left fun x hx => ?_
  have := h x hx
  simp [u8v]
  omega
theorem ff_map (n : Nat) : List.replicate n (Value.int .u8 255) = (List.replicate n 255).map u8v := by simp [u8v]
theorem brow_of {W : World} {g : Nat} {l : List Nat} (h : Row W g (l.map u8v) 5) : BRow W (some ⟨g, 0, none⟩) l := by
  refine .inr ⟨g, 0, rfl, fun i hi => ?_⟩
  rw [Nat.zero_add]
  exact h.cell (by simp [List.getD, hi, u8v])

set_option maxRecDepth 100000 in
set_option maxHeartbeats 2000000 in
theorem page_read (p : Pg) (n : Nat) (w : World) (h1 : 1 ≤ n) (h2 : n ≤ 512) (hd : p.data.length ≤ n) (hb : ∀ x ∈ p.data, x < 256) :
    Calls Try.prog 70 #[.agg #[.int .i64 p.st, .string (bstr p.data)], .int .i64 n] w fun e w' => ∃ a m cap, e = .returned (.tuple #[.slice a m cap, .int .i64 p.err]) ∧ m = (p.bytes n).length ∧ m ≤ cap ∧ cap ≤ 512 ∧ BRow w' a (p.bytes n) ∧ Below w.heap.size w w' ∧ (p.bytes n = [] ∨ ∀ b o, a = some ⟨b, o, none⟩ → w.heap.size ≤ b) := by
  have hrep0 : ∀ st S, Calls Try.prog 74 #[.slice (some ⟨w.heap.size + 1, 0, none⟩) 1 1, .int .i64 n] ((w.alloc (.cells #[.int .i64 st, .string S] 75)).alloc (.cells #[.int .u8 255] 5)) fun e w' => ∃ g, e = .returned (.slice (some ⟨g, 0, none⟩) n n) ∧ w.heap.size ≤ g ∧ Row w' g (List.replicate n (Value.int .u8 255)) 5 ∧ Below w.heap.size w w' ∧ w'.cell? ⟨w.heap.size, 0, none⟩ = some (.int .i64 st) ∧ w'.cell? ⟨w.heap.size, 1, none⟩ = some (.string S) := by
    intro st S
    have h := Row.new (w.alloc (.cells #[.int .i64 st, .string S] 75)) [.int .u8 255] 5
    rw [World.size_alloc] at h
    have := repeat_any (w.heap.size + 1) 0 1 n _ h1 h2 (h.cell (i := 0) rfl)
    refine this.mono ?_
    rintro e w' ⟨rfl, q1, q2⟩
    have q4 := ((Row.new w [Value.int IntKind.i64 st, Value.string S] 75).alloc (.cells #[.int .u8 255] 5)).later q2
    exact ⟨_, rfl, by simp; omega, q1, Below.after (below_new w _) (Below.after (below_new _ _) q2), q4.cell (i := 0) rfl, q4.cell (i := 1) rfl⟩
  obtain ⟨st, hst⟩ : ∃ st, st = p.st := ⟨_, rfl⟩
  obtain ⟨S, hS⟩ : ∃ S, S = bstr p.data := ⟨_, rfl⟩
  rw [← hst, ← hS]
  have hrep := hrep0 st S
  clear hrep0
  by_cases h0 : st = 0
  · have e1 : p.bytes n = List.replicate n 255 := by unfold Pg.bytes; rw [← hst, if_pos h0]
    have e2 : p.err = 0 := by unfold Pg.err; rw [← hst, if_pos h0]
    rw [e1, e2]
    have k0 : (st == 0) = true := by simpa using h0
    clear h0 hst hS e1 e2 hd hb
    go_enter Try.func70, Try.ntmps70
    go_wp2_with (go_at_call 74; refine hrep.mono ?_; rintro e w1 ⟨g, rfl, hg, q1, q3, q5, q6⟩)
    go_ret2
    rw [ff_map] at q1
    exact ⟨_, n, n, rfl, by simp, Nat.le_refl _, h2, brow_of q1, q3, .inr fun b o e => by cases e; exact hg⟩
  · have k0 : (st == 0) = false := by simpa using h0
    by_cases h3 : st = 1
    · have e1 : p.bytes n = p.data ++ List.replicate (n - p.data.length) 255 := by unfold Pg.bytes; rw [← hst, if_neg h0, if_pos h3]
      have e2 : p.err = 0 := by unfold Pg.err; rw [← hst, if_neg h0, if_pos h3]
      rw [e1, e2]
      have k1 : (st == 1) = true := by simpa using h3
      have hsz : S.size = p.data.length := by rw [hS]; unfold bstr; rw [strOfNums_size]; simp
      have hle : S.size ≤ n := by omega
      have HC : Hid (splice (List.replicate n (Value.int .u8 255)) 0 (S.data.toList.map fun x => Value.int .u8 (x.toNat : Int)) = (p.data ++ List.replicate (n - p.data.length) 255).map u8v) := by
        show _ = _
        rw [hS, bstr_cells _ hb]
        unfold splice
        simp [u8v]
      have HL : Hid (n = (p.data ++ List.replicate (n - p.data.length) 255).length) := by show _ = _; simp; omega
      generalize p.data ++ List.replicate (n - p.data.length) 255 = L at *
      clear h0 h3 hst hS e1 e2 hd hb hsz
      have hrl : (List.replicate n (Value.int .u8 255)).length = n := by simp
      go_enter Try.func70, Try.ntmps70
      go_wp2_with (first
        | (go_at_call 74; refine hrep.mono ?_; rintro e w1 ⟨g, rfl, hg, q1, q3, q5, q6⟩)
        | (refine wpList_copy_str rfl (.tmp 17) (.tmp 19) rfl _ _ _ _ rfl rfl hle (List.replicate n (Value.int .u8 255)) hrl q1 w.heap.size w q3 hg ?_; intro w2 hg2 hb2))
      go_ret2
      have q9 := hg2.out
      rw [HC.out] at q9
      exact ⟨_, n, n, rfl, HL.out, Nat.le_refl _, h2, brow_of q9, hb2, .inr fun b o e => by cases e; exact hg⟩
    · have k1 : (st == 1) = false := by simpa using h3
      have e1 : p.bytes n = [] := by unfold Pg.bytes; rw [← hst, if_neg h0, if_neg h3]
      have e2 : p.err = 5 := by unfold Pg.err; rw [← hst, if_neg h0, if_neg h3]
      rw [e1, e2]
      clear h0 h3 hst hS e1 e2 hd hb
      go_enter Try.func70, Try.ntmps70
      go_wp2_with (go_at_call 74; refine hrep.mono ?_; rintro e w1 ⟨g, rfl, hg, q1, q3, q5, q6⟩)
      go_ret2
      exact ⟨_, 0, 0, rfl, rfl, Nat.le_refl _, by omega, .inl rfl, q3, by simp⟩
end Go.Proofs.Ytiejkbncpbhcdaa
