/-
  Drafts: what is to stand in a block.
  A page that is to be copied.
  A draft in a Free block.
-/
import Derived.Test.YtccfalafphjkpaaGreatDoorKD
namespace Go.Proofs.YtccfalafphjkpaaGreatDoor
open Go.RowKit
set_option maxRecDepth 10000

@[local go_sem] theorem run_store_func (P : Program) (w : World) (a : Addr) (m : Mode) (f : Fn) (x y : Array Value) : (store a (.func f x y) m).run P w = stored P w a (.func f x y) m := run_store P w a _ m rfl
theorem grown_any (leb : Int) (a : Option Addr) (n cap : Nat) (w : World) :
    Calls Tryz.prog 88 #[.int .i64 leb, .slice a n cap] w fun e w' => ∃ B, e = .returned (.agg #[.int .i64 leb, .int .i64 1, .int .i64 0, .func (.func 121) #[] #[.pointer (some ⟨B, 0, none⟩)]]) ∧ w'.cell? ⟨B, 0, none⟩ = some (.slice a n cap) ∧ Below w.heap.size w w' := by
  go_enter Tryz.func88, Tryz.ntmps88
  go_wp2
  refine bodyPost_ret (v := .agg #[.int .i64 leb, .int .i64 1, .int .i64 0, .func (.func 121) #[] #[.pointer (some ⟨w.heap.size, 0, none⟩)]]) ?_ rfl ⟨w.heap.size, rfl, ?_, Below.after (below_new w _) (below_new _ _)⟩
  · simp [results, Tryz.f88, go_sem]
  · exact ((Row.new w [.slice a n cap] 24).later (below_new _ _)).cell (i := 0) rfl
theorem grown1_any (B : Nat) (i : Int) (a : Option Addr) (n cap : Nat) (w : World) (h : w.cell? ⟨B, 0, none⟩ = some (.slice a n cap)) :
    Calls Tryz.prog 121 #[.int .i64 i, .pointer (some ⟨B, 0, none⟩)] w fun e w' => e = .returned (.tuple #[.slice a n cap, .nilIface]) ∧ w = w' := by
  go_enter Tryz.func121, Tryz.ntmps121
  go_wp2
  refine bodyPost_ret (v := .tuple #[.slice a n cap, .nilIface]) ?_ rfl ⟨rfl, rfl⟩
  simp [results, Tryz.f121, go_sem]
set_option maxHeartbeats 1000000 in
theorem transfer_grown {base : Nat} {w : World} {m : Mg} {c : CS} (h : MLies base w m c) (n B i : Nat) (hi : i ≤ 64) (leb p q : Int) (a : Option Addr) (k cap : Nat) (data : List Nat) (hB : w.cell? ⟨B, 0, none⟩ = some (.slice a k cap)) (hm : k = data.length) (hd : BRow w a data) (hd2 : ∀ x ∈ data, x < 256) (hdne : data = [] ∨ ∀ b o, a = some ⟨b, o, none⟩ → ¬ c.foot b) :
    Calls Tryz.prog 167 #[.pointer (some ⟨m.p, 0, none⟩), .int .i64 (n : Nat), .int .i64 (i : Nat), .agg #[.int .i64 leb, .int .i64 p, .int .i64 q, .func (.func 121) #[] #[.pointer (some ⟨B, 0, none⟩)]]] w (DoPost base w m c (c.programM n (2 + (i : Int)) data)) := by
  obtain ⟨W, hW⟩ : ∃ W, W = w.alloc (.cells #[.int .i64 leb, .int .i64 p, .int .i64 q, .func (.func 121) #[] #[.pointer (some ⟨B, 0, none⟩)]] 121) := ⟨_, rfl⟩
  have HBW : Hid (Below w.heap.size w W) := by rw [hW]; exact below_new w _
  have k1 : ∀ j : Int, Calls Tryz.prog 121 #[.int .i64 j, .pointer (some ⟨B, 0, none⟩)] W fun e w' => e = .returned (.tuple #[.slice a k cap, .nilIface]) ∧ W = w' := fun j => grown1_any B j a k cap W (by rw [HBW.out.cell (p := ⟨B, 0, none⟩) (World.block_lt_of_cell? w _ hB)]; exact hB)
  have k2 := mprogram_any (h.later HBW.out) (n : Nat) (2 + (i : Int)) a k cap data hm (hd.later HBW.out) hd2 hdne
  obtain ⟨r, hr⟩ : ∃ r, r = c.programM n (2 + (i : Int)) data := ⟨_, rfl⟩
  rw [← hr] at k2 ⊢
  have i0 : (0 : Int) ≤ (i : Int) := by omega
  have i1 : (i : Int) ≤ 64 := by omega
  clear h hB hm hd hd2 hdne hr hi
  go_enter Tryz.func167, Tryz.ntmps167
  go_wp2_with fail
  rw [← hW]
  clear hW
  go_wp2_with (first
    | (go_at_call 121; refine (k1 _).mono ?_; rintro e w1 ⟨rfl, rfl⟩)
    | (go_at_call 90; refine k2.mono ?_; rintro e w2 ⟨v, rfl, he, hl, hk, hf⟩))
  go_ret
  exact ⟨v, rfl, he, hl, (Kept.of_below HBW.out).trans hk, hf⟩
end Go.Proofs.YtccfalafphjkpaaGreatDoor
namespace Go.Proofs.YtccfalafphjkpaaGreatDoor
open Go.RowKit
set_option maxRecDepth 10000

theorem mread_ok {base : Nat} {w : World} {m : Mg} {c : CS} (h : MLies base w m c) (n i : Nat) (hi : i ≤ 64) (l : List Nat) (hr : c.read n (2 + (i : Int)) = (l, 0)) :
    Calls Tryz.prog 155 #[.pointer (some ⟨m.p, 0, none⟩), .int .i64 (n : Nat), .int .i64 (i : Nat)] w fun e w' => ∃ a k cap, e = .returned (.tuple #[.slice a k cap, .nilIface]) ∧ Got w w' l a k cap := by
  obtain ⟨c0, _, _, _⟩ := h.cells
  have k1 := read_any h.chip (n : Nat) (2 + (i : Int))
  rw [hr] at k1
  have i0 : (0 : Int) ≤ (i : Int) := by omega
  have i1 : (i : Int) ≤ 64 := by omega
  clear h hr hi
  go_enter Tryz.func155, Tryz.ntmps155
  go_wp2_with (go_at_call 42; refine k1.mono ?_; rintro e w1 ⟨a, k, cap, rfl, hg⟩; have HG : Hid (Got w w1 l a k cap) := hg; clear hg)
  refine bodyPost_ret (v := .tuple #[.slice a k cap, .nilIface]) ?_ rfl ⟨a, k, cap, rfl, HG.out⟩
  simp [results, Tryz.f155, go_sem]
theorem mread_no {base : Nat} {w : World} {m : Mg} {c : CS} (h : MLies base w m c) (n i : Nat) (hi : i ≤ 64) (hr : (c.read n (2 + (i : Int))).2 ≠ 0) :
    Calls Tryz.prog 155 #[.pointer (some ⟨m.p, 0, none⟩), .int .i64 (n : Nat), .int .i64 (i : Nat)] w fun e w' => ∃ v, e = .returned (.tuple #[.slice none 0 0, v]) ∧ ErrV w' v 6 ∧ Below w.heap.size w w' := by
  obtain ⟨c0, _, _, _⟩ := h.cells
  have k1 := read_any h.chip (n : Nat) (2 + (i : Int))
  obtain ⟨r, hr1⟩ : ∃ r, r = c.read n (2 + (i : Int)) := ⟨_, rfl⟩
  rw [← hr1] at k1 hr
  obtain ⟨l, x⟩ := r
  have kf := failed_any
  have hx : (x == 0) = false := by simpa using hr
  have i0 : (0 : Int) ≤ (i : Int) := by omega
  have i1 : (i : Int) ≤ 64 := by omega
  have hx2 : ¬ x = 0 := hr
  clear h hr hr1 hi
  go_enter Tryz.func155, Tryz.ntmps155
  go_wp2_with (first
    | (go_at_call 42; refine k1.mono ?_; rintro e w1 ⟨a, k, cap, rfl, hg⟩; have HG : Hid (Got w w1 l a k cap) := hg; clear hg)
    | (go_at_call 89; refine (kf _ _ _ _).mono ?_; rintro e w2 ⟨v, rfl, he, hb2⟩))
  refine bodyPost_ret (v := .tuple #[.slice none 0 0, v]) ?_ rfl ⟨v, rfl, he, Below.after HG.out.below hb2⟩
  simp [results, Tryz.f155, go_sem]
end Go.Proofs.YtccfalafphjkpaaGreatDoor
namespace Go.Proofs.YtccfalafphjkpaaGreatDoor
open Go.RowKit
set_option maxRecDepth 10000

def Mg.next (m : Mg) : Mg := { m with seq := m.seq + 1 }
/-- Pages, one behind the other, from page i on. -/
def pagesM (c : CS) (n : Int) : Nat → List (List Nat) → Int × CS
  | _, [] => (0, c)
  | i, d :: r => if (c.programM n (2 + (i : Int)) d).1 = 0 then pagesM (c.programM n (2 + (i : Int)) d).2 n (i + 1) r else c.programM n (2 + (i : Int)) d
theorem MLies.next {base : Nat} {w : World} {m : Mg} {c : CS} (h : MLies base w m c) : MLies base (w.setCell ⟨m.p, 2, none⟩ (.int .u64 ((m.seq : Int) + 1))) m.next c :=
  h.wroteP ((Kept.refl (fun k => k = m.p) w).setCell (p := ⟨m.p, 2, none⟩) rfl _) rfl rfl rfl rfl (by
    have := h.box.set (i := 2) (.int .u64 ((m.seq : Int) + 1)) (by simp [mgCells])
    have e : mgCells m.next c.p = (mgCells m c.p).set 2 (.int .u64 ((m.seq : Int) + 1)) := by unfold mgCells Mg.next; simp
    rw [e]; exact this)
end Go.Proofs.YtccfalafphjkpaaGreatDoor
