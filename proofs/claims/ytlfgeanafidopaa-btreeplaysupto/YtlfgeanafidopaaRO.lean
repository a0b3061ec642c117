/-
  The chapter's example.
  A list of nodes put behind another; a list's bulk.
-/
import Derived.Test.YtlfgeanafidopaaQV
import Derived.Test.YtlfgeanafidopaaRB
import Derived.Test.YtlfgeanafidopaaRN
import Derived.Test.YtlfgeanafidopaaRows
import Derived.KernelRfl
import Derived.Laws.AppendOwnNone
namespace Go.Proofs.Ytlfgeanafidopaa.Bt
open Go.RowKit
set_option maxRecDepth 10000

def ex (s : List UInt8) : K := ⟨s.toArray⟩
def one : K := ex [49]
def kx (i : Nat) : K := ex [UInt8.ofNat (97 + i)]
def xk : Nat → Tre
  | 0 => tre0
  | k + 1 => putR 4 (kx k) one (xk k)
theorem x5n : (xk 5).n = 1 := by kernel_rfl
theorem x5c : cntT (xk 5) = 3 := by kernel_rfl
theorem x5w : cntT (wipeT (xk 5)) = 0 := by kernel_rfl
theorem x5l : (xk 5).all.length = 5 := by kernel_rfl
theorem x5p : putR 4 (kx 2) one (wipeT (xk 5)) = wipeT (xk 5) := by kernel_rfl
theorem x5g : look (kx 2) (wipeT (wipeT (xk 5))).all = some one := by kernel_rfl
theorem x5m : (wipeT (xk 5)).all.length = 5 := by kernel_rfl
theorem x5q : (wipeT (wipeT (xk 5))).all.length = 5 := by kernel_rfl
theorem xkl (k : Nat) (h : k < 5) : (xk k).all.length < 2305843009213693952 ∧ putE (kx k) one = 0 := by
  match k, h with
  | 0, _ => exact ⟨by rw [show (xk 0).all.length = 0 by kernel_rfl]; decide, by kernel_rfl⟩
  | 1, _ => exact ⟨by rw [show (xk 1).all.length = 1 by kernel_rfl]; decide, by kernel_rfl⟩
  | 2, _ => exact ⟨by rw [show (xk 2).all.length = 2 by kernel_rfl]; decide, by kernel_rfl⟩
  | 3, _ => exact ⟨by rw [show (xk 3).all.length = 3 by kernel_rfl]; decide, by kernel_rfl⟩
  | 4, _ => exact ⟨by rw [show (xk 4).all.length = 4 by kernel_rfl]; decide, by kernel_rfl⟩
theorem p2e : putE (kx 2) one = 0 := by kernel_rfl
/-- A block of another type is none of a tree's. -/
theorem Live.notIn {w : World} {p F : Nat} {x : Tre} {fs : List Nat} (h : Live w p F x fs) {B : Nat} {cs : List Value} {ty : TypeId} (hr : Row w B cs ty) (h1 : ty ≠ 74) (h2 : ty ≠ 77) (h3 : ty ≠ 67) : ¬ (B = p ∨ B ∈ fs) := by
  obtain ⟨t, ht, hfs⟩ := h.tr
  rintro (e | e)
  · exact hr.ne ht.row h3 e
  · rw [← hfs] at e; exact hr.notFoot h1 h2 ht.lies e
def fiveV : List Value := [.string (kx 0), .string (kx 1), .string (kx 2), .string (kx 3), .string (kx 4)]
set_option maxHeartbeats 8000000 in
theorem alive_any (w : World) : Calls Try.prog 11 #[] w fun e w' => e = .returned (.bool true) ∧ Below w.heap.size w w' := by
  have kN := new_ok 4 w (by decide) (by decide)
  have HPut : Hid (∀ (p k : Nat) (wr : World) (B : Nat), k < 5 → Blt w p 4 (xk k) wr → Row wr B fiveV 9 → Calls Try.prog 26 #[.pointer (some ⟨p, 0, none⟩), .string (kx k), .string one] wr fun e w' => e = .returned (.int .i64 0) ∧ Blt w p 4 (xk (k + 1)) w' ∧ Row w' B fiveV 9) := fun p k wr B hk hB hr => by
    obtain ⟨fs, h1, h2⟩ := hB.live
    refine (putT_any h1 (kx k) one (xkl k hk).1).mono ?_
    rintro e w' ⟨rfl, hL⟩
    refine ⟨by rw [(xkl k hk).2], Blt.step hB.p hB.below h2 hL, hr.kept hL.kept (h1.notIn hr (by decide) (by decide) (by decide))⟩
  have HHt : Hid (∀ (p : Nat) (wr : World), Blt w p 4 (xk 5) wr → Calls Try.prog 21 #[.pointer (some ⟨p, 0, none⟩)] wr fun e w' => e = .returned (.int .i64 2) ∧ wr = w') := fun p wr hB => by
    obtain ⟨fs, h1, h2⟩ := hB.live
    have := height_any h1 (by rw [x5l]; decide)
    rwa [x5n] at this
  have HCl : Hid (∀ (p : Nat) (wr : World), Blt w p 4 (xk 5) wr → Calls Try.prog 22 #[.pointer (some ⟨p, 0, none⟩)] wr fun e w' => e = .returned (.int .i64 3) ∧ Blt w p 4 (wipeT (xk 5)) w') := fun p wr hB => by
    obtain ⟨fs, h1, h2⟩ := hB.live
    refine (cleanT_any h1 (by rw [x5l]; decide)).mono ?_
    rintro e w' ⟨rfl, hL⟩
    exact ⟨by rw [x5c]; rfl, Blt.step hB.p hB.below h2 hL⟩
  have HPt : Hid (∀ (p : Nat) (wr : World), Blt w p 4 (wipeT (xk 5)) wr → Calls Try.prog 26 #[.pointer (some ⟨p, 0, none⟩), .string (kx 2), .string one] wr fun e w' => e = .returned (.int .i64 0) ∧ Blt w p 4 (wipeT (xk 5)) w') := fun p wr hB => by
    obtain ⟨fs, h1, h2⟩ := hB.live
    have := putT_any h1 (kx 2) one (by rw [x5m]; decide)
    rw [x5p, p2e] at this
    refine this.mono ?_
    rintro e w' ⟨rfl, hL⟩
    exact ⟨rfl, Blt.step hB.p hB.below h2 hL⟩
  have HCl2 : Hid (∀ (p : Nat) (wr : World), Blt w p 4 (wipeT (xk 5)) wr → Calls Try.prog 22 #[.pointer (some ⟨p, 0, none⟩)] wr fun e w' => e = .returned (.int .i64 0) ∧ Blt w p 4 (wipeT (wipeT (xk 5))) w') := fun p wr hB => by
    obtain ⟨fs, h1, h2⟩ := hB.live
    refine (cleanT_any h1 (by rw [x5m]; decide)).mono ?_
    rintro e w' ⟨rfl, hL⟩
    exact ⟨by rw [x5w]; rfl, Blt.step hB.p hB.below h2 hL⟩
  have HGet : Hid (∀ (p : Nat) (wr : World), Blt w p 4 (wipeT (wipeT (xk 5))) wr → Calls Try.prog 23 #[.pointer (some ⟨p, 0, none⟩), .string (kx 2)] wr fun e w' => e = .returned (.tuple #[.string ⟨#[49]⟩, .bool true]) ∧ Blt w p 4 (wipeT (wipeT (xk 5))) w') := fun p wr hB => by
    obtain ⟨fs, h1, h2⟩ := hB.live
    have := h1.get (kx 2)
    rw [x5g] at this
    refine this.mono ?_
    rintro e w' ⟨rfl, hb⟩
    exact ⟨rfl, hB.later hb⟩
  have HLen : Hid (∀ (p : Nat) (wr : World), Blt w p 4 (wipeT (wipeT (xk 5))) wr → Calls Try.prog 14 #[.pointer (some ⟨p, 0, none⟩)] wr fun e w' => e = .returned (.int .i64 5) ∧ wr = w') := fun p wr hB => by
    obtain ⟨fs, h1, h2⟩ := hB.live
    have := len_any h1
    rwa [x5q] at this
  have HN3 : Hid (∀ wr, Calls Try.prog 28 #[.int .i64 3] wr fun e w' => e = .returned (.tuple #[.pointer none, .int .i64 22]) ∧ wr = w') := fun wr => new_bad 3 wr (by decide)
  have HK : Hid (∀ k : Nat, k < 5 → fiveV[k]? = some (.string (kx k))) := fun k hk => by
    match k, hk with
    | 0, _ => rfl
    | 1, _ => rfl
    | 2, _ => rfl
    | 3, _ => rfl
    | 4, _ => rfl
  go_enter Try.func11, Try.ntmps11
  go_wp2_with (go_at_call 28; refine kN.mono ?_; rintro e W1 ⟨p, fs, rfl, hb1, hl1, hp1, hf1⟩; have H1 : Hid (Blt w p 4 (xk 0) W1) := ⟨⟨fs, hl1, hf1⟩, hp1, hb1⟩; clear hb1 hl1 hp1 hf1)
  go_loopg [4] 5 (fun kx s wr => ∃ k : Nat, k + kx = 5 ∧ s = .int .i64 (k : Nat) ∧ Hid (Blt w p 4 (xk k) wr ∧ Row wr W1.heap.size fiveV 9))
  case atStart =>
    refine ⟨0, rfl, rfl, ?_⟩
    exact (⟨H1.out.later (below_new W1 _), Row.new W1 fiveV _⟩ : Blt w p 4 (xk 0) _ ∧ Row _ W1.heap.size fiveV 9)
  case round =>
    obtain ⟨k, hk, rfl, I⟩ := hrel
    by_cases hlt : k < 5
    · have q := I.out.2.cell (HK.out k hlt)
      have hi1 : (k : Int) < 5 := by omega
      have kP := HPut.out p k wr W1.heap.size hlt I.out.1 I.out.2
      generalize hkk : kx k = kk at *
      clear hkk
      go_wp2_with (go_at_call 26; refine kP.mono ?_; rintro e W3 ⟨rfl, h3, r3⟩; have H3 : Hid (Blt w p 4 (xk (k + 1)) W3 ∧ Row W3 W1.heap.size fiveV 9) := ⟨h3, r3⟩; clear h3 r3)
      go_roundg (5 - (k + 1))
      case measure => omega
      case rel => exact ⟨k + 1, by omega, by go_num, H3.out⟩
    · have hk5 : k = 5 := by omega
      subst hk5
      have I5 : Hid (Blt w p 4 (xk 5) wr) := I.out.1
      have M1 : Hid True := trivial
      clear I hlt hk
      go_wp2_with (first
        | (go_at_call 21; refine (HHt.out p wr I5.out).mono ?_; rintro e w' ⟨rfl, rfl⟩)
        | (go_at_call 22; clear M1; refine (HCl.out p wr I5.out).mono ?_; rintro e Wc ⟨rfl, hc⟩; have HC : Hid (Blt w p 4 (wipeT (xk 5)) Wc) := hc; clear hc)
        | (go_at_call 26; refine (HPt.out p Wc HC.out).mono ?_; rintro e Wp ⟨rfl, hc⟩; have HP : Hid (Blt w p 4 (wipeT (xk 5)) Wp) := hc; clear hc)
        | (go_at_call 22; refine (HCl2.out p Wp HP.out).mono ?_; rintro e Wd ⟨rfl, hc⟩; have HD : Hid (Blt w p 4 (wipeT (wipeT (xk 5))) Wd) := hc; clear hc)
        | (go_at_call 23; refine (HGet.out p Wd HD.out).mono ?_; rintro e We ⟨rfl, hc⟩; have HE : Hid (Blt w p 4 (wipeT (wipeT (xk 5))) We) := hc; clear hc)
        | (go_at_call 28; refine (HN3.out We).mono ?_; rintro e w' ⟨rfl, rfl⟩)
        | (go_at_call 14; refine (HLen.out p We HE.out).mono ?_; rintro e w' ⟨rfl, rfl⟩))
      all_goals go_ret
      all_goals exact ⟨rfl, HE.out.below⟩
end Go.Proofs.Ytlfgeanafidopaa.Bt
namespace Go.Proofs.Ytlfgeanafidopaa.Bt
open Go.RowKit

theorem wpList_append_nds {w : World} {ops : Array Oper} {rest : List Oper} {o : Oper} {a : Act} {Q : Exit → Act → World → Prop} (hgd : o.guard = none) (s x : Operand)
    (ho : o.op = .call { callee := .builtin .append, args := #[s, x], argTypes := #[22, 22] })
    (base : Nat) (v : Value) (n : Nat) (l1 : List KV) (hs : a.eval s = v) (hn : n = l1.length) (hown : w.ownsRow base 54 3 v n (l1.flatMap ndv))
    (u : Value) (l2 : List KV) (hx : a.eval x = u) (hu : NdAt w u l2) (hb : l1.length + l2.length ≤ 3000000000) (hbase : base ≤ w.heap.size)
    (h : ∀ v' w', w'.ownsRow base 54 3 v' (l1 ++ l2).length ((l1 ++ l2).flatMap ndv) → w.grownBy w' v.ownBlock → wpList Try.prog ops Q rest (a.put o.dst v') w') : wpList Try.prog ops Q (o :: rest) a w := by
  obtain ⟨i0, hi, hz0, hz1, hz2⟩ := info_parts infoNd
  subst hn
  rcases hu.own.2 with ⟨rfl, h0⟩ | ⟨g, cap, cur, rfl, _, hgg, hnc, hcm, hcs, htake⟩
  · have hl : l2 = [] := List.eq_nil_of_length_eq_zero h0
    subst hl
    refine wpList_append_own_none hgd s x 22 ho base 54 i0 3 Try.underlying22 hi v l1.length _ hs hown hx ?_
    exact h v w (by simpa using hown) ⟨rfl, rfl, rfl, Nat.le_refl _, fun _ _ _ => rfl⟩
  · refine wpList_append_own w hgd s x 22 ho base 54 i0 _ 3 40 Try.underlying22 hi hz0 hz1 hz2 rfl (by omega) v l1.length _ hs hown ⟨g, 0, none⟩ l2.length cap (l2.flatMap ndv) hx (flat_len ndv 3 ndv_len l2) ?_ (ndv_one _) (by unfold maxLen; omega) (by omega) hbase
      (fun v' w' h1 h2 _ => h v' w' (by rw [List.length_append, List.flatMap_append]; exact h1) h2)
    intro j z hj
    have hw : Whole w g cur.toList 54 := by unfold Whole; simpa using hgg
    rw [show (⟨g, 0, none⟩ : Addr).add j = ⟨g, j, none⟩ by unfold Addr.add; split <;> simp_all, hw.cell]
    have hlt := (List.getElem?_eq_some_iff.1 hj).1
    rw [flat_len ndv 3 ndv_len] at hlt
    rw [← hj, ← htake, List.getElem?_take, if_pos (by omega)]
theorem bulk_pos {H : Type} (d : DataW H) : 1 ≤ Rows.uptoBulk d := by
  cases d with
  | lit x => cases x <;> simp [Rows.uptoBulk]
  | _ => simp [Rows.uptoBulk]
theorem bulk_len {H : Type} : ∀ l : List (DataW H), l.length ≤ Rows.uptoBulkAll l
  | [] => Nat.zero_le _
  | d :: r => by
    have h1 := bulk_len r
    have h2 := bulk_pos d
    simp only [Rows.uptoBulkAll, List.length_cons]
    omega
end Go.Proofs.Ytlfgeanafidopaa.Bt
