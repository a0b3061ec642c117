/-
  The reader of package image: its state in memory, and what its methods do with it.
-/
import Derived.Test.YtfalbbcbgkiejaaIMine
import Derived.Test.YtfalbbcbgkiejaaGet
import Derived.Lib.ConvBytes
namespace Go.Proofs.Ytfalbbcbgkiejaa
open Go.RowKit M

/-- The reader at B: what is left, and whether something was lacking. -/
def Rd (w : World) (B : Nat) (t : TypeId) (r : List UInt8) (sh : Bool) : Prop := Row w B [.string (bs r), .bool sh] t
/-- The reader's new state; all else is as it was. -/
structure RPost (w : World) (B : Nat) (t : TypeId) (r : List UInt8) (sh : Bool) (w' : World) : Prop where
  rd : Rd w' B t r sh
  kept : Kept (fun k => k = B) w w'

/-- What text answers, what is left then, and whether something was lacking then. -/
def txV (n : Nat) (r : List UInt8) : List UInt8 := if r.length < n then [] else r.take n
def txR (n : Nat) (r : List UInt8) : List UInt8 := if r.length < n then r else r.drop n
def txS (n : Nat) (r : List UInt8) (sh : Bool) : Bool := if r.length < n then true else sh

theorem bs_extract (l : List UInt8) (f k : Nat) : (bs l).extract f k = bs ((l.drop f).take (k - f)) := by
  rw [← bs_of ((bs l).extract f k), ByteArray.data_extract]
  simp [bs, List.extract_eq_take_drop]

set_option maxRecDepth 10000 in
set_option maxHeartbeats 1000000 in
theorem text_any (B : Nat) (t : TypeId) (n : Nat) (r : List UInt8) (sh : Bool) (w : World) (hr : r.length ≤ maxLen) (h : Rd w B t r sh) :
    Calls Try.prog 53 #[.pointer (some ⟨B, 0, none⟩), .int .i64 n] w fun e w' => e = .returned (.string (bs (txV n r))) ∧ RPost w B t (txR n r) (txS n r sh) w' := by
  unfold maxLen at hr
  have c0 : w.cell? ⟨B, 0, none⟩ = some (.string (bs r)) := h.cell (i := 0) rfl
  have c1 : w.cell? ⟨B, 1, none⟩ = some (.bool sh) := h.cell (i := 1) rfl
  have f0 := Row.frozen h 0
  have f1 := Row.frozen h 1
  have hz := bs_size r
  have H : Hid (Rd w B t r sh) := h
  clear h
  unfold txV txR txS
  by_cases hn : r.length < n
  · rw [if_pos hn, if_pos hn, if_pos hn]
    have hn2 : (bs r).size < n := by omega
    obtain ⟨S, hS⟩ : ∃ S, S = bs r := ⟨_, rfl⟩
    rw [← hS] at c0 hz hn2
    clear hS hz hn hr
    go_enter Try.func53, Try.ntmps53
    go_wp2
    go_ret
    exact ⟨rfl, H.out.set (i := 1) (.bool true) (by simp), (Kept.refl (fun k => k = B) w).setCell (p := ⟨B, 1, none⟩) rfl _⟩
  · rw [if_neg hn, if_neg hn, if_neg hn]
    have hn2 : ¬ (bs r).size < n := by omega
    have hn3 : n ≤ (bs r).size := by omega
    have HX : Hid ((bs r).extract 0 n = bs (r.take n)) := by show _ = _; rw [bs_extract]; simp
    have HY : Hid ((bs r).extract n (bs r).size = bs (r.drop n)) := by show _ = _; rw [bs_extract, bs_size]; congr 1; rw [List.take_of_length_le (by simp)]
    obtain ⟨S, hS⟩ : ∃ S, S = bs r := ⟨_, rfl⟩
    rw [← hS] at c0 hz hn2 hn3 HX HY
    have hs63 : S.size ≤ 9223372036854775807 := by omega
    clear hS hz hn hr
    go_enter Try.func53, Try.ntmps53
    go_wp2
    go_ret
    refine ⟨by rw [← HX.out]; rfl, ?_, (Kept.refl (fun k => k = B) w).setCell (p := ⟨B, 0, none⟩) rfl _⟩
    have := H.out.set (i := 0) (.string (S.extract n S.size)) (by simp)
    rw [HY.out] at this
    have e := HY.out
    rw [e]
    exact this

theorem RPost.later {w w1 w2 : World} {B : Nat} {t : TypeId} {r : List UInt8} {sh : Bool} (h : RPost w B t r sh w1) (hb : Below w1.heap.size w1 w2) : RPost w B t r sh w2 :=
  ⟨Row.later h.rd hb, h.kept.later hb⟩
theorem RPost.trans {w w1 w2 : World} {B : Nat} {t u : TypeId} {r r' : List UInt8} {sh sh' : Bool} (h : RPost w B t r sh w1) (k : RPost w1 B u r' sh' w2) : RPost w B u r' sh' w2 :=
  ⟨k.rd, h.kept.trans k.kept⟩
theorem RPost.same {w : World} {B : Nat} {t : TypeId} {r : List UInt8} {sh : Bool} (h : Rd w B t r sh) : RPost w B t r sh w := ⟨h, .refl _ _⟩
theorem txR_len (n : Nat) (r : List UInt8) : (txR n r).length ≤ r.length := by
  unfold txR; split
  · exact Nat.le_refl _
  · simp
theorem txV_len (n : Nat) (r : List UInt8) : (txV n r).length ≤ n := by
  unfold txV; split
  · simp
  · simp; omega

/-- What number answers. -/
def numV (n : Nat) (r : List UInt8) : Nat := getL ((nats (txV n r)).take 8)
theorem numV_lt (n : Nat) (r : List UInt8) : numV n r < 18446744073709551616 := by
  unfold numV
  have h := getL_lt ((nats (txV n r)).take 8) (fun x hx => nats_lt _ x (List.mem_of_mem_take hx))
  have h2 : (256 : Nat) ^ ((nats (txV n r)).take 8).length ≤ 256 ^ 8 := Nat.pow_le_pow_right (by decide) (by simp; omega)
  omega
theorem get_at_bytes (s : List UInt8) (hs : s.length ≤ maxLen) (cap : Nat) (w : World) :
    Calls Try.prog 52 #[.slice (some ⟨w.heap.size, 0, none⟩) s.length cap] (Lib.bytesWorld w 5 (bs s)) fun e w' => e = .returned (.int .u64 (getL ((nats s).take 8) : Nat)) ∧ Lib.bytesWorld w 5 (bs s) = w' := by
  have := get_any (some ⟨w.heap.size, 0, none⟩) cap (nats s) (Lib.bytesWorld w 5 (bs s)) (by rw [nats_length]; exact hs) (nats_lt s) (bytes_row s w)
  rw [nats_length] at this
  exact this

set_option maxRecDepth 10000 in
set_option maxHeartbeats 1000000 in
theorem number_any (B : Nat) (t : TypeId) (n : Nat) (r : List UInt8) (sh : Bool) (w : World) (hr : r.length ≤ maxLen) (hn : n ≤ 7) (h : Rd w B t r sh) :
    Calls Try.prog 40 #[.pointer (some ⟨B, 0, none⟩), .int .i64 n] w fun e w' => e = .returned (.int .i64 (numV n r : Nat)) ∧ RPost w B t (txR n r) (txS n r sh) w' := by
  have ht := text_any B t n r sh w hr h
  have hl : (txV n r).length ≤ maxLen := by
    unfold txV; split
    · decide
    · rw [List.length_take]; omega
  have hg := fun cap W => get_at_bytes (txV n r) hl cap W
  have hcv := fun W => to_bytes (txV n r) W
  have HB : Hid (∀ W, Below W.heap.size W (Lib.bytesWorld W 5 (bs (txV n r)))) := fun W => bytes_below _ W
  have hv63 : numV n r < 9223372036854775808 := by
    unfold numV
    have h := getL_lt ((nats (txV n r)).take 8) (fun x hx => nats_lt _ x (List.mem_of_mem_take hx))
    have h2 : (256 : Nat) ^ ((nats (txV n r)).take 8).length ≤ 256 ^ 7 := Nat.pow_le_pow_right (by decide) (by have := txV_len n r; simp [nats_length]; omega)
    omega
  obtain ⟨v, hv⟩ : ∃ v, v = numV n r := ⟨_, rfl⟩
  rw [← hv] at hv63
  have hv64 : (v : Int) < 9223372036854775808 := by omega
  have hv0 : (0 : Int) ≤ (v : Int) := by omega
  rw [← hv]
  have hg2 : ∀ cap W, Calls Try.prog 52 #[.slice (some ⟨W.heap.size, 0, none⟩) (txV n r).length cap] (Lib.bytesWorld W 5 (bs (txV n r))) fun e w' => e = .returned (.int .u64 (v : Int)) ∧ Lib.bytesWorld W 5 (bs (txV n r)) = w' := by
    rw [hv]; exact hg
  obtain ⟨S, hS⟩ : ∃ S, S = bs (txV n r) := ⟨_, rfl⟩
  obtain ⟨m, hm⟩ : ∃ m, m = (txV n r).length := ⟨_, rfl⟩
  rw [← hS] at ht hcv HB hg2
  rw [← hm] at hg2 hcv
  clear hg hv hS hm hl h hr
  go_enter Try.func40, Try.ntmps40
  go_wp2_with (first
    | (go_at_call 53; refine ht.mono ?_; rintro e w1 ⟨rfl, p1⟩)
    | (go_at_call 52; refine (hg2 _ _).mono ?_; rintro e w2 ⟨rfl, rfl⟩))
  go_ret
  exact ⟨rfl, p1.later (HB.out _)⟩

/-- Was there all, and nothing more? -/
def dn (r : List UInt8) (sh : Bool) : Bool := !sh && r.isEmpty
set_option maxRecDepth 10000 in
theorem done_any (B : Nat) (t : TypeId) (r : List UInt8) (sh : Bool) (w : World) (h : Rd w B t r sh) :
    Calls Try.prog 42 #[.pointer (some ⟨B, 0, none⟩)] w fun e w' => e = .returned (.bool (dn r sh)) ∧ w = w' := by
  have c0 : w.cell? ⟨B, 0, none⟩ = some (.string (bs r)) := h.cell (i := 0) rfl
  have c1 : w.cell? ⟨B, 1, none⟩ = some (.bool sh) := h.cell (i := 1) rfl
  have hl := bs_toList r
  obtain ⟨S, hS⟩ : ∃ S, S = bs r := ⟨_, rfl⟩
  rw [← hS] at c0 hl
  have e1 : S.toList.isEmpty = r.isEmpty := by rw [hl]
  have e2 : (S.toList == []) = r.isEmpty := by rw [hl]; cases r <;> rfl
  clear hS h hl
  unfold dn
  obtain ⟨b, hb⟩ : ∃ b, b = r.isEmpty := ⟨_, rfl⟩
  rw [← hb] at e1 e2 ⊢
  clear hb
  cases sh
  · go_enter Try.func42, Try.ntmps42
    go_wp2
    go_ret
    exact ⟨by simp, rfl⟩
  · go_enter Try.func42, Try.ntmps42
    go_wp2
    go_ret
    exact ⟨rfl, rfl⟩
end Go.Proofs.Ytfalbbcbgkiejaa
