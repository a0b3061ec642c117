/-
  The example that each statement asks for.
-/
import Derived.Test.YtiejkbncpbhcdaaCNew
import Derived.Test.YtiejkbncpbhcdaaCProg
import Derived.Lib.SlBytesConst
namespace Go.Proofs.Ytiejkbncpbhcdaa
open Go.RowKit

theorem small_any (w : World) : Calls Try.prog 15 #[] w fun e w' => e = .returned (.agg #[.int .i64 16, .int .i64 16, .int .i64 128, .int .i64 2]) ∧ Below w.heap.size w w' := by
  go_enter Try.func15, Try.ntmps15
  go_wp2
  refine bodyPost_ret (v := .agg #[.int .i64 16, .int .i64 16, .int .i64 128, .int .i64 2]) ?_ rfl ⟨rfl, ?_⟩
  · simp [results, Try.f15, go_sem]
  · exact below_new w _
/-- The small chip. -/
def smallC (p q : Nat) (rs : List Nat) : CS := newC 16 16 128 2 p q [] rs
theorem new_small (w : World) : Calls Try.prog 5 #[.agg #[.int .i64 16, .int .i64 16, .int .i64 128, .int .i64 2], .slice none 0 0] w fun e w' => ∃ p q rs, e = .returned (.tuple #[.pointer (some ⟨p, 0, none⟩), .int .i64 0]) ∧ rs.length = 16 ∧ Lies w.heap.size w' (smallC p q rs) ∧ Below w.heap.size w w' := by
  refine (new_go 16 16 128 2 none 0 0 [] w rfl (.inl rfl) ⟨by decide, by simp [planOk]⟩ (by decide +kernel) (by decide) (by decide) (by decide) (by decide) (by decide) (by decide)).mono ?_
  rintro e w' ⟨p, q, s, rs, rfl, h1, h2, _, h3, h4⟩
  have : s = [] := h2.eq_nil
  subst this
  exact ⟨p, q, rs, rfl, h1, h3, h4⟩
theorem alive_facts (p q : Nat) (rs : List Nat) (h : rs.length = 16) : ∃ c1 c2 b, (smallC p q rs).program 3 0 [97] = (0, c1) ∧ c1.program 3 0 [98] = (1, c2) ∧ c2.read 3 0 = (97 :: List.replicate 127 255, 0) ∧ c2.at 3 = some b ∧ b.next = 1 ∧ c2.wrong = 1 ∧ c2.ops = 1 ∧ c1.p = p ∧ c2.p = p := by
  rcases rs with _ | ⟨r0, _ | ⟨r1, _ | ⟨r2, _ | ⟨r3, rest⟩⟩⟩⟩ <;> simp at h
  exact ⟨((smallC p q (r0 :: r1 :: r2 :: r3 :: rest)).program 3 0 [97]).2, (((smallC p q (r0 :: r1 :: r2 :: r3 :: rest)).program 3 0 [97]).2.program 3 0 [98]).2, { freshB 16 r3 with pgs := (List.replicate 16 (⟨0, []⟩ : Pg)).set 0 ⟨1, [97]⟩, next := 1 }, by kernel_rfl, by kernel_rfl, by kernel_rfl, by kernel_rfl, rfl, by kernel_rfl, by kernel_rfl, by kernel_rfl, by kernel_rfl⟩
theorem new_bytes (w : World) (x : Nat) : BRow (w.alloc (.cells #[.int .u8 (x : Int)] 5 (1, 2))) (some ⟨w.heap.size, 0, none⟩) [x] := by
  refine .inr ⟨w.heap.size, 0, rfl, fun i hi => ?_⟩
  simp at hi
  subst hi
  rw [Nat.zero_add, World.cell?_alloc_mark]
  rfl
theorem new_apart {base : Nat} {w : World} {c : CS} (h : Lies base w c) (l : List Nat) : l = [] ∨ ∀ b o, some (⟨w.heap.size, 0, none⟩ : Addr) = some ⟨b, o, none⟩ → ¬ c.foot b := by
  refine .inr fun b o e hk => ?_
  cases e
  exact absurd (h.foot_lt hk) (Nat.lt_irrefl _)
theorem program_at {base : Nat} {w : World} {c c' : CS} (h : Lies base w c) (p : Nat) (hp : c.p = p) (block page x : Int) (a : Option Addr) (m dc : Nat) (data : List Nat) (hm : m = data.length) (hd : BRow w a data) (hd2 : ∀ y ∈ data, y < 256) (hdne : data = [] ∨ ∀ b o, a = some ⟨b, o, none⟩ → ¬ c.foot b) (he : c.program block page data = (x, c')) :
    Calls Try.prog 16 #[.pointer (some ⟨p, 0, none⟩), .int .i64 block, .int .i64 page, .slice a m dc] w fun e w' => e = .returned (.int .i64 x) ∧ Lies base w' c' ∧ Kept c.foot w w' ∧ Hid (c'.foot = c.foot) := by
  subst hp
  refine (program_all h block page a m dc data hm hd hd2 hdne).mono ?_
  rw [he]
  exact fun e w' q => q
theorem read_at' {base : Nat} {w : World} {c : CS} (h : Lies base w c) (p : Nat) (hp : c.p = p) (block page x : Int) (l : List Nat) (he : c.read block page = (l, x)) :
    Calls Try.prog 22 #[.pointer (some ⟨p, 0, none⟩), .int .i64 block, .int .i64 page] w fun e w' => ∃ a m cap, e = .returned (.tuple #[.slice a m cap, .int .i64 x]) ∧ Got w w' l a m cap := by
  subst hp
  refine (read_any h block page).mono ?_
  rw [he]
  exact fun e w' q => q
theorem next_at {base : Nat} {w : World} {c : CS} (h : Lies base w c) (p : Nat) (hp : c.p = p) (n x : Int) (hx : x = match c.at n with | none => 0 | some b => b.next) :
    Calls Try.prog 23 #[.pointer (some ⟨p, 0, none⟩), .int .i64 n] w fun e w' => e = .returned (.int .i64 x) ∧ w = w' := by
  subst hp hx; exact next_any h n
theorem wrong_at {base : Nat} {w : World} {c : CS} (h : Lies base w c) (p : Nat) (hp : c.p = p) (x : Int) (hx : c.wrong = x) :
    Calls Try.prog 24 #[.pointer (some ⟨p, 0, none⟩)] w fun e w' => e = .returned (.int .i64 x) ∧ w = w' := by
  subst hp hx; exact wrong_any h
theorem ops_at {base : Nat} {w : World} {c : CS} (h : Lies base w c) (p : Nat) (hp : c.p = p) (x : Int) (hx : c.ops = x) :
    Calls Try.prog 25 #[.pointer (some ⟨p, 0, none⟩)] w fun e w' => e = .returned (.int .i64 x) ∧ w = w' := by
  subst hp hx; exact ops_any h
theorem got_ex {w w' : World} {a : Option Addr} {m cap : Nat} (hg : Got w w' (97 :: List.replicate 127 255) a m cap) : ∃ gb go, a = some ⟨gb, go, none⟩ ∧ m = 128 ∧ w'.cell? ⟨gb, go, none⟩ = some (.int .u8 97) ∧ w'.cell? ⟨gb, go + 1, none⟩ = some (.int .u8 255) := by
  rcases hg.row with e | ⟨gb, go, e, h⟩
  · cases e
  · exact ⟨gb, go, e, hg.len, h 0 (by simp), h 1 (by simp)⟩
theorem Lies.lower {base B : Nat} {w : World} {c : CS} (h : Lies base w c) (hB : B ≤ base) : Lies B w c := ⟨h.chip, h.bks, h.pgs, h.nd, fun k hk => Nat.le_trans hB (h.low k hk), h.good⟩
theorem new_small' (w W : World) (hW : Below w.heap.size w W) : Calls Try.prog 5 #[.agg #[.int .i64 16, .int .i64 16, .int .i64 128, .int .i64 2], .slice none 0 0] W fun e w' => ∃ p q rs, e = .returned (.tuple #[.pointer (some ⟨p, 0, none⟩), .int .i64 0]) ∧ Hid (rs.length = 16) ∧ Lies w.heap.size w' (smallC p q rs) ∧ Below w.heap.size w w' := by
  refine (new_small W).mono ?_
  rintro e w' ⟨p, q, rs, rfl, h1, h2, h3⟩
  exact ⟨p, q, rs, rfl, h1, h2.lower hW.size, hW.trans (h3.mono hW.size)⟩
theorem Kept.low {base : Nat} {w w' : World} {c : CS} (h : Kept c.foot w w') (hl : Lies base w c) (hb : base ≤ w.heap.size) : Below base w w' := h.below hb hl.low
/-- The chip behind the example's calls. -/
structure Ex (p : Nat) (c0 c1 c2 : CS) : Prop where
  one : c0.program 3 0 [97] = (0, c1)
  two : c1.program 3 0 [98] = (1, c2)
  read : c2.read 3 0 = (97 :: List.replicate 127 255, 0)
  next : (1 : Int) = match c2.at 3 with | none => 0 | some b => b.next
  wrong : c2.wrong = 1
  ops : c2.ops = 1
  p0 : c0.p = p
  p1 : c1.p = p
  p2 : c2.p = p
theorem ex_small (p q : Nat) (rs : List Nat) (h : rs.length = 16) : ∃ c1 c2, Ex p (smallC p q rs) c1 c2 := by
  obtain ⟨c1, c2, b, f1, f2, f3, f4, f5, f6, f7, f8, f9⟩ := alive_facts p q rs h
  exact ⟨c1, c2, f1, f2, f3, by rw [f4]; exact f5.symm, f6, f7, rfl, f8, f9⟩
set_option maxRecDepth 10000 in
set_option maxHeartbeats 2000000 in
theorem alive_any (w : World) : Calls Try.prog 9 #[] w fun e w' => e = .returned (.bool true) ∧ Below w.heap.size w w' := by
  have M1 : Hid True := trivial
  have hc97 : ∀ W : World, (convert 35 35 (.slice (some ⟨W.heap.size, 0, none⟩) 1 1)).run Try.prog (W.alloc (.cells #[.int .u8 97] 5)) = .ok (.slice (some ⟨W.heap.size, 0, none⟩) 1 1) (W.alloc (.cells #[.int .u8 97] 5 (1, 2))) := fun W => Lib.run_convert_bytes_const W 35 5 #[.int .u8 97] 1 1 Try.underlying35 Try.underlying5
  have hc98 : ∀ W : World, (convert 35 35 (.slice (some ⟨W.heap.size, 0, none⟩) 1 1)).run Try.prog (W.alloc (.cells #[.int .u8 98] 5)) = .ok (.slice (some ⟨W.heap.size, 0, none⟩) 1 1) (W.alloc (.cells #[.int .u8 98] 5 (1, 2))) := fun W => Lib.run_convert_bytes_const W 35 5 #[.int .u8 98] 1 1 Try.underlying35 Try.underlying5
  go_enter Try.func9, Try.ntmps9
  go_wp2_with (first
    | (go_at_call 15; refine (small_any _).mono ?_; rintro e w1 ⟨rfl, hb1⟩)
    | (go_at_call 5; refine (new_small' w w1 hb1).mono ?_; rintro e w2 ⟨p, q, rs, rfl, hrs, hl2, hb2⟩; obtain ⟨c1, c2, hex⟩ := ex_small p q rs hrs.out; generalize smallC p q rs = c0 at *; clear hb1)
    | (go_at_call 16; clear M1; go_must (refine (program_at (hl2.later (below_new w2 (.cells #[.int .u8 97] 5 (1, 2)))) p hex.p0 3 0 0 (some ⟨w2.heap.size, 0, none⟩) 1 1 [97] rfl (new_bytes w2 97) (by simp) (new_apart hl2 _) hex.one).mono ?_); rintro e w3 ⟨rfl, hl3, hk3, _⟩; have hb3 := (Below.after hb2 (below_new w2 (.cells #[.int .u8 97] 5 (1, 2)))).trans (hk3.low (hl2.later (below_new w2 _)) (Nat.le_trans hb2.size (below_new w2 _).size)))
    | (go_at_call 16; go_must (refine (program_at (hl3.later (below_new w3 (.cells #[.int .u8 98] 5 (1, 2)))) p hex.p1 3 0 1 (some ⟨w3.heap.size, 0, none⟩) 1 1 [98] rfl (new_bytes w3 98) (by simp) (new_apart hl3 _) hex.two).mono ?_); rintro e w4 ⟨rfl, hl4, hk4, _⟩; have hb4 := (Below.after hb3 (below_new w3 (.cells #[.int .u8 98] 5 (1, 2)))).trans (hk4.low (hl3.later (below_new w3 _)) (Nat.le_trans hb3.size (below_new w3 _).size)))
    | (go_at_call 22; go_must (refine (read_at' hl4 p hex.p2 3 0 0 _ hex.read).mono ?_); rintro e w5 ⟨a, m, cap, rfl, hg⟩; have hc := hg.fits; obtain ⟨gb, go, rfl, rfl, g0, g1⟩ := got_ex hg; have hl5 := hl4.later hg.below; have hb5 := Below.after hb4 hg.below; clear hg)
    | (go_at_call 23; go_must (refine (next_at hl5 p hex.p2 3 1 hex.next).mono ?_); rintro e w' ⟨rfl, rfl⟩)
    | (go_at_call 24; go_must (refine (wrong_at hl5 p hex.p2 1 hex.wrong).mono ?_); rintro e w' ⟨rfl, rfl⟩)
    | (go_at_call 25; go_must (refine (ops_at hl5 p hex.p2 1 hex.ops).mono ?_); rintro e w' ⟨rfl, rfl⟩))
  go_ret
  exact ⟨rfl, hb5⟩
end Go.Proofs.Ytiejkbncpbhcdaa
