/-
  Build.
-/
import Derived.Test.YtpflacbinankmaaBClean
import Derived.Test.YtpflacbinankmaaBArg
namespace Go.Proofs.Ytpflacbinankmaa.Bt
open Go.RowKit
set_option maxRecDepth 10000

/-- A tree to which nodes are done, one by one, and the first error. -/
def bld (F : Nat) : List Nw → Tre → Tre × Int
  | [], x => (x, 0)
  | y :: l, x => if y.g then bld F l (delS F y.k x) else if putE y.k y.v = 0 then bld F l (putR F y.k y.v x) else (x, putE y.k y.v)
theorem ins_len_le (k v : K) {l : List KV} (h : Srt l) : (ins k v l).length ≤ l.length + 1 := by rw [ins_len k v l h]; split <;> omega
theorem putR_len {F : Nat} (hF : 4 ≤ F) (k v : K) {x : Tre} (h : InvT F x) : (putR F k v x).all.length ≤ x.all.length + 1 ∧ InvT F (putR F k v x) := by
  unfold putR
  split
  · unfold putS
    split
    · exact ⟨by omega, h⟩
    · obtain ⟨h1, h2⟩ := inv_put hF k v h
      exact ⟨by rw [h2]; exact ins_len_le k v h.good.srt, h1⟩
  · exact ⟨by omega, h⟩
theorem delS_len {F : Nat} (hF : 4 ≤ F) (k : K) {x : Tre} (h : InvT F x) : (delS F k x).all.length ≤ x.all.length ∧ InvT F (delS F k x) := by
  unfold delS
  split
  · rename_i hk
    have hm := (look_mem k _).1 (Option.isSome_iff_exists.1 hk)
    obtain ⟨h1, h2⟩ := inv_del hF k h hm
    exact ⟨by rw [h2]; exact List.length_filter_le _ _, h1⟩
  · exact ⟨by omega, h⟩
/-- The tree that is being built: all of it is new. -/
structure Blt (w : World) (p F : Nat) (x : Tre) (wr : World) : Prop where
  live : ∃ fs, Live wr p F x fs ∧ ∀ b ∈ fs, w.heap.size ≤ b
  p : w.heap.size ≤ p
  below : Below w.heap.size w wr
theorem Blt.step {w : World} {p F : Nat} {x' : Tre} {wr w' : World} {fs : List Nat} (hp : w.heap.size ≤ p) (hb : Below w.heap.size w wr) (hf : ∀ b ∈ fs, w.heap.size ≤ b) (h : Left wr p F fs x' w') : Blt w p F x' w' := by
  obtain ⟨fs', h1, h2⟩ := h.live
  refine ⟨⟨fs', h1, fun b hb' => ?_⟩, hp, ?_⟩
  · rcases h2 b hb' with q | q
    · exact hf b q
    · have := hb.size; omega
  · refine hb.trans ?_
    refine h.kept.below hb.size (fun b hb' => ?_)
    rcases hb' with q | q
    · omega
    · exact hf b q
theorem Blt.later {w : World} {p F : Nat} {x : Tre} {wr w' : World} (h : Blt w p F x wr) (hb : Below wr.heap.size wr w') : Blt w p F x w' := by
  obtain ⟨fs, h1, h2⟩ := h.live
  exact ⟨⟨fs, h1.later hb, h2⟩, h.p, bafter h.below hb⟩
/-- What Build answers. -/
def bltV (F : Nat) (l : List Nw) (p : Nat) : Value := if (bld F l tre0).2 = 0 then .tuple #[.pointer (some ⟨p, 0, none⟩), .int .i64 0] else .tuple #[.pointer none, .int .i64 (bld F l tre0).2]
def BltPost (F : Nat) (l : List Nw) (w : World) (e : Ending) (w' : World) : Prop := ∃ p, e = .returned (bltV F l p) ∧ Below w.heap.size w w' ∧ ((bld F l tre0).2 = 0 → Blt w p F (bld F l tre0).1 w')
set_option maxHeartbeats 8000000 in
theorem build_any (F : Nat) (h1 : 4 ≤ F) (h2 : F ≤ 64) (a : Option Addr) (len cap : Nat) (l : List Nw) (w : World) (hA : NArg w a len cap l) (hsz : len < 2305843009213693000) :
    Calls Try.prog 9 #[.int .i64 (F : Nat), .slice a len cap] w fun e w' => BltPost F l w e w' := by
  have kN := new_ok F w h1 h2
  have hln := hA.len_eq
  have HRow : Hid (NRow w a l) := hA.row
  have hcm := hA.max
  have hlc := hA.le
  obtain ⟨R, hR⟩ : ∃ R, R = bld F l tre0 := ⟨_, rfl⟩
  have HR : Hid (R = bld F l tre0) := hR
  have HL : Hid (len = l.length) := hln
  clear hA hln hR
  unfold maxLen at hcm
  go_enter Try.func9, Try.ntmps9
  go_wp2_with (go_at_call 28; refine kN.mono ?_; rintro e W1 ⟨p, fs, rfl, hb1, hl1, hp1, hf1⟩; have H1 : Hid (Blt w p F tre0 W1) := ⟨⟨fs, hl1, hf1⟩, hp1, hb1⟩; clear hb1 hl1 hp1 hf1)
  go_loopg [21] len (fun kx s wr => ∃ (k : Nat) (x : Tre), k + kx = len ∧ s = .int .i64 (k : Nat) ∧ Hid (Blt w p F x wr ∧ x.all.length ≤ k ∧ bld F (l.drop k) x = R))
  case atStart => exact ⟨0, tre0, by omega, rfl, (⟨H1.out, Nat.le_refl _, by rw [List.drop_zero]; exact HR.out.symm⟩ : Blt w p F tre0 W1 ∧ tre0.all.length ≤ 0 ∧ bld F (l.drop 0) tre0 = R)⟩
  case round =>
    obtain ⟨k, x, hk, rfl, I⟩ := hrel
    by_cases hlt : k < len
    · obtain ⟨y, hy⟩ : ∃ y, l[k]? = some y := ⟨_, List.getElem?_eq_getElem (by have := HL.out; omega)⟩
      obtain ⟨hyl, hye⟩ := List.getElem?_eq_some_iff.1 hy
      have hdr : l.drop k = y :: l.drop (k + 1) := by rw [← hye, ← List.drop_eq_getElem_cons hyl]
      rcases HRow.out.later I.out.1.below with e | ⟨b, off, rfl, hc⟩
      · rw [e] at hyl; simp at hyl
      obtain ⟨q0, q1, q2⟩ := hc k y hy
      have hi1 : (k : Int) < (len : Int) := by omega
      have hbw : b < wr.heap.size := World.block_lt_of_cell? wr _ q0
      obtain ⟨fs, hlv, hfs⟩ := I.out.1.live
      have HStep := I.out.2.2
      rw [hdr, bld] at HStep
      have hxl := I.out.2.1
      have hp0 := I.out.1.p
      have hbe := I.out.1.below
      cases hg : y.g with
      | true =>
        rw [hg] at q2 HStep
        rw [if_pos rfl] at HStep
        have HD : Hid (∀ X, Below wr.heap.size wr X → Calls Try.prog 25 #[.pointer (some ⟨p, 0, none⟩), .string y.k] X fun e w' => e = .returned (.bool (look y.k x.all).isSome) ∧ Blt w p F (delS F y.k x) w') := fun X hb => by
          refine (delT_any (hlv.later hb) y.k (by omega)).mono ?_
          rintro e w' ⟨rfl, hL⟩
          exact ⟨rfl, Blt.step hp0 (bafter hbe hb) hfs hL⟩
        have HS : Hid (bld F (l.drop (k + 1)) (delS F y.k x) = R ∧ (delS F y.k x).all.length ≤ k + 1) := ⟨HStep, by have := (delS_len h1 y.k hlv.inv).1; omega⟩
        clear hlv hfs HStep hxl hp0 hbe hy hye hdr hc hg
        go_wp2_with (go_at_call 25; refine (HD.out _ (below_new wr _)).mono ?_; rintro e W3 ⟨rfl, h3⟩; have H3 : Hid (Blt w p F (delS F y.k x) W3) := h3; clear h3)
        go_roundg (len - (k + 1))
        case measure => omega
        case rel => exact ⟨k + 1, delS F y.k x, by omega, by go_num, (⟨H3.out, HS.out.2, HS.out.1⟩ : Blt w p F (delS F y.k x) W3 ∧ (delS F y.k x).all.length ≤ k + 1 ∧ bld F (l.drop (k + 1)) (delS F y.k x) = R)⟩
      | false =>
        rw [hg] at q2 HStep
        rw [if_neg (by decide)] at HStep
        have HD : Hid (∀ X, Below wr.heap.size wr X → Calls Try.prog 26 #[.pointer (some ⟨p, 0, none⟩), .string y.k, .string y.v] X fun e w' => e = .returned (.int .i64 (putE y.k y.v)) ∧ Blt w p F (putR F y.k y.v x) w') := fun X hb => by
          refine (putT_any (hlv.later hb) y.k y.v (by omega)).mono ?_
          rintro e w' ⟨rfl, hL⟩
          exact ⟨rfl, Blt.step hp0 (bafter hbe hb) hfs hL⟩
        by_cases hE : putE y.k y.v = 0
        · rw [if_pos hE] at HStep
          have HS : Hid (bld F (l.drop (k + 1)) (putR F y.k y.v x) = R ∧ (putR F y.k y.v x).all.length ≤ k + 1) := ⟨HStep, by have := (putR_len h1 y.k y.v hlv.inv).1; omega⟩
          rw [hE] at HD
          clear hlv hfs HStep hxl hp0 hbe hy hye hdr hc hg hE
          go_wp2_with (go_at_call 26; refine (HD.out _ (below_new wr _)).mono ?_; rintro e W3 ⟨rfl, h3⟩; have H3 : Hid (Blt w p F (putR F y.k y.v x) W3) := h3; clear h3)
          go_roundg (len - (k + 1))
          case measure => omega
          case rel => exact ⟨k + 1, putR F y.k y.v x, by omega, by go_num, (⟨H3.out, HS.out.2, HS.out.1⟩ : Blt w p F (putR F y.k y.v x) W3 ∧ (putR F y.k y.v x).all.length ≤ k + 1 ∧ bld F (l.drop (k + 1)) (putR F y.k y.v x) = R)⟩
        · rw [if_neg hE] at HStep
          have HS : Hid ((x, putE y.k y.v) = R) := HStep
          have hne : (putE y.k y.v != 0) = true := by simpa using hE
          have HE : Hid (¬ putE y.k y.v = 0) := hE
          generalize putE y.k y.v = E at *
          clear hlv hfs HStep hxl hp0 hbe hy hye hdr hc hg hE
          go_wp2_with (go_at_call 26; refine (HD.out _ (below_new wr _)).mono ?_; rintro e W3 ⟨rfl, h3⟩; have H3 : Hid (Blt w p F (putR F y.k y.v x) W3) := h3; clear h3)
          go_ret2
          refine ⟨p, ?_, H3.out.below, fun h => ?_⟩
          · unfold bltV; rw [← HR.out, ← HS.out, if_neg HE.out]; rfl
          · rw [← HR.out, ← HS.out] at h; exact absurd h HE.out
    · have hkl : k = len := by omega
      subst hkl
      have hR2 := I.out.2.2
      rw [HL.out, List.drop_eq_nil_of_le (Nat.le_refl _), bld] at hR2
      have HR2 : Hid ((x, 0) = R) := hR2
      clear hR2
      go_wp2
      go_ret2
      refine ⟨p, ?_, I.out.1.below, fun _ => ?_⟩
      · unfold bltV; rw [← HR.out, ← HR2.out]; rfl
      · rw [← HR.out, ← HR2.out]; exact I.out.1
set_option maxHeartbeats 1000000 in
theorem build_bad (f : Int) (a : Option Addr) (len cap : Nat) (w : World) (h : okFan f = false) :
    Calls Try.prog 9 #[.int .i64 f, .slice a len cap] w fun e w' => e = .returned (.tuple #[.pointer none, .int .i64 22]) ∧ w = w' := by
  have kN := new_bad f w h
  clear h
  go_enter Try.func9, Try.ntmps9
  go_wp2_with (go_at_call 28; refine kN.mono ?_; rintro e w' ⟨rfl, rfl⟩)
  go_ret2
  exact ⟨rfl, rfl⟩
end Go.Proofs.Ytpflacbinankmaa.Bt
