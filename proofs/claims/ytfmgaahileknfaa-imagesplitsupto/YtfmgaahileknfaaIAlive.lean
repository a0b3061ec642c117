/-
  The chapter's examples, which every statement asks for.
-/
import Derived.Test.YtfmgaahileknfaaISpl
namespace Go.Proofs.Ytfmgaahileknfaa
open Go.RowKit M
set_option maxRecDepth 10000

def zst : St := ⟨⟨#[]⟩, 0, 0, 0⟩
def ast : St := ⟨⟨#[97]⟩, 5, 258, 7⟩
theorem lev9 : levZ 9 = 2 := by
  have e : lev 9 = 2 := by rw [lev_more (by decide), show prt 9 8 = 2 by decide, lev_le8 (by decide)]
  exact e
theorem lev65 : levZ 65 = 3 := by
  have e : lev 65 = 3 := by rw [lev_more (by decide), show prt 65 8 = 9 by decide, lev_more (by decide), show prt 9 8 = 2 by decide, lev_le8 (by decide)]
  exact e
theorem spl9 : ∃ x y, spl (List.replicate 9 zst) = [x, y] ∧ x.length = 5 := by
  refine ⟨List.replicate 5 zst, List.replicate 4 zst, by kernel_rfl, rfl⟩
theorem imgA : imgL 0 [ast] = [84, 0, 1, 1, 97, 5, 0, 2, 1, 0, 7, 0] := by decide +kernel
theorem okA : imgOk 0 [ast] = true := by decide +kernel
theorem zcells9 : (madeCells (Value.agg #[.string ⟨#[]⟩, .int .i64 0, .int .i64 0, .int .i64 0]).cells (9 * 4)).toList = (List.replicate 9 zst).flatMap stv := by kernel_rfl
theorem arg_one (w : World) (s : St) (hs : s.key.size ≤ maxLen) : ZArg (w.alloc (.cells (stv s).toArray 41)) (some ⟨w.heap.size, 0, none⟩) 1 1 [s] :=
  ⟨rfl, Nat.le_refl _, by decide, by simpa using hs, zrow_of fun j u hj => by
    rw [Nat.zero_add]
    exact (Row.new w (stv s) 41).cell (by simpa using hj)⟩
set_option maxHeartbeats 4000000 in
theorem alive_any (w : World) :
    Calls Try.prog 13 #[] w fun e w' => e = .returned (.bool true) ∧ Below w.heap.size w w' := by
  have k1 : Calls Try.prog 23 #[.agg #[.int .i64 0, .slice (some ⟨w.heap.size, 0, none⟩) 1 1]] (w.alloc (.cells #[.string ⟨#[97]⟩, .int .i64 5, .int .i64 258, .int .i64 7] 41)) fun e w' => ∃ a cap, e = .returned (.tuple #[.slice a 12 cap, .int .i64 0]) ∧ BRow w' a [84, 0, 1, 1, 97, 5, 0, 2, 1, 0, 7, 0] ∧ Below w.heap.size w w' := by
    refine (pack_yes 0 _ 1 1 [ast] _ (arg_one w ast (by decide)) okA).mono ?_
    rintro e w' ⟨v, rfl, ho⟩
    rw [imgA] at ho
    obtain ⟨a, cap, rfl, h1, _, _⟩ := ho.row
    exact ⟨a, cap, rfl, h1, bafter (below_new _ _) ho.2⟩
  have k2 : ∀ W a c, ZArg W a 9 c (List.replicate 9 zst) → (a = none → c = 0) → Calls Try.prog 5 #[.slice a 9 c] W fun e w' => ∃ b off cc ya yc, e = .returned (.slice (some ⟨b, off, none⟩) 2 cc) ∧ w'.cell? ⟨b, off, none⟩ = some (.slice ya 5 yc) ∧ Below W.heap.size W w' := fun W a c hA hn => by
    refine (split_any a 9 c _ W hA (by decide) hn).mono ?_
    rintro e w' ⟨la, n, lc, rfl, hL, hb⟩
    obtain ⟨x, y, e, hx⟩ := spl9
    rw [e] at hL
    have h2 : n = 2 := hL.len_eq
    subst h2
    rcases hL.row with q | ⟨b, off, rfl, hc⟩
    · cases q
    · obtain ⟨ya, yc, q0, _⟩ := hc 0 x rfl
      rw [hx] at q0
      exact ⟨b, off, lc, ya, yc, rfl, q0, hb⟩
  have k3 : ∀ W, Calls Try.prog 9 #[.int .i64 9] W fun e w' => e = .returned (.int .i64 2) ∧ W = w' := fun W => by have := levels_any 9 (by decide) W; rw [lev9] at this; exact this
  have k4 : ∀ W, Calls Try.prog 9 #[.int .i64 65] W fun e w' => e = .returned (.int .i64 3) ∧ W = w' := fun W => by have := levels_any 65 (by decide) W; rw [lev65] at this; exact this
  have HCV : Hid (∀ (W : World) (a : Option Addr) (cap : Nat), BRow W a [84, 0, 1, 1, 97, 5, 0, 2, 1, 0, 7, 0] → (convert 53 9 (.slice a 12 cap)).run Try.prog W = .ok (.string ⟨#[84, 0, 1, 1, 97, 5, 0, 2, 1, 0, 7, 0]⟩) W) := fun W a cap hr => conv_row cap hr
  obtain ⟨i0, hi, hz0, hz1, hz2⟩ := info_parts infoZ
  have HM : Hid (i0.bytes * 9 ≤ 281474976710656 ∧ 9 ≤ maxLen) := ⟨by rw [hz2]; decide, by decide⟩
  have M1 : Hid True := trivial
  go_enter Try.func13, Try.ntmps13
  go_wp2_with (first
    | (go_at_call 23; refine k1.mono ?_; rintro e w1 ⟨a1, c1, rfl, hr1, hb⟩; have HB1 : Hid (Below w.heap.size w w1) := hb; have HR1 : Hid (BRow w1 a1 [84, 0, 1, 1, 97, 5, 0, 2, 1, 0, 7, 0]) := hr1; clear hb hr1)
    | (at_make; refine wpList_make_full _ rfl _ _ 26 rfl w1.heap.size 41 i0 _ 4 Try.underlying26 hi hz0 hz1 _ _ _ _ 9 rfl rfl rfl rfl HM.out.1 HM.out.2 (Nat.le_refl _) ?_; intro w2 hown hgrow; have HB2 : Hid (Below w1.heap.size w1 w2) := (Below.refl _ _).grown hgrow (Nat.le_refl _) (fun k hk => by cases hk); rw [zcells9] at hown; have HA2 : Hid (ZArg w2 (some ⟨w1.heap.size, 0, none⟩) 9 9 (List.replicate 9 zst)) := ZMade.arg (w := w1) rfl ⟨hown, HB2.out⟩ (fun s hs => by rw [List.eq_of_mem_replicate hs]; decide); clear hown hgrow)
    | (go_at_call 5; refine (k2 _ _ _ HA2.out (fun e => by cases e)).mono ?_; rintro e w3 ⟨b, off, cc, ya, yc, rfl, q0, hb⟩; have HB3 : Hid (Below w.heap.size w w3) := bafter HB1.out (bafter HB2.out hb); have hcv := HCV.out w3 a1 c1 (HR1.out.later (bafter HB2.out hb)); clear hb)
    | (go_at_call 9; clear M1; refine (k3 _).mono ?_; rintro e w4 ⟨rfl, rfl⟩)
    | (go_at_call 9; refine (k4 _).mono ?_; rintro e w4 ⟨rfl, rfl⟩))
  go_ret
  exact ⟨rfl, HB3.out⟩
end Go.Proofs.Ytfmgaahileknfaa
