/-
  A book to which operations were done.
-/
import Derived.Test.YtjbdjicciakibaaDoorBCard
namespace Go.Proofs.YtjbdjicciakibaaDoor
open Go.RowKit Go.Shelf
set_option maxRecDepth 10000

/-- A book that a call has made, as it lies. -/
structure Mk (w : World) (p q cap : Nat) (size : Int) (l : List PB) (W : World) : Prop where
  bk : BLies W p q cap size l
  ok : BkOk size l
  bel : Below w.heap.size w W
  hp : w.heap.size ≤ p
  hq : w.heap.size ≤ q
theorem Mk.left {w : World} {p q cap : Nat} {size : Int} {l l' : List PB} {W W' : World} (h : Mk w p q cap size l W) (hl : Left W W' p q cap size l') (ho : BkOk size l') : Mk w p q cap size l' W' := ⟨hl.1, ho, h.bel.trans (hl.2.below h.bel.size (fun k e => by subst e; exact h.hq)), h.hp, h.hq⟩
theorem Mk.later {w : World} {p q cap : Nat} {size : Int} {l : List PB} {W W' : World} (h : Mk w p q cap size l W) (hb : Below W.heap.size W W') : Mk w p q cap size l W' := ⟨h.bk.later hb, h.ok, Below.after h.bel hb, h.hp, h.hq⟩
def madeF (size : Int) (n : Nat) (os : List BOp) : List PB := os.foldl (opF size) (List.replicate n PB.none)
theorem made_no (n size : Int) (h : ¬ newOk n size) (a : Option Addr) (m cap : Nat) (w : World) :
    Calls Tryd.prog 6 #[.int .i64 n, .int .i64 size, .slice a m cap] w fun e w' => e = .returned (.pointer none) ∧ Below w.heap.size w w' := by
  have kN := new_no n size h w
  clear h
  go_enter Tryd.func6, Tryd.ntmps6
  go_wp2_with (go_at_call 17; refine kN.mono ?_; rintro e w1 ⟨rfl, rfl⟩)
  go_ret
  exact ⟨rfl, Below.refl _ _⟩
set_option maxHeartbeats 4000000 in
theorem made_go (n : Nat) (size : Int) (h : newOk n size) (a : Option Addr) (m cap : Nat) (os : List BOp) (w : World) (hA : OArg w a m cap os) :
    Calls Tryd.prog 6 #[.int .i64 (n : Nat), .int .i64 size, .slice a m cap] w fun e w' => e = .returned (.pointer (some ⟨w.heap.size + 1, 0, none⟩)) ∧ Mk w (w.heap.size + 1) w.heap.size n size (madeF size n os) w' := by
  have kN := new_go n size h w
  have HO := hidW (bkOk_new h)
  have HA := hidW hA.row
  have HL := hidW hA.len_eq
  have hm : (m : Int) ≤ 9223372036854775807 := by have h1 := hA.le; have h2 := hA.max; unfold maxLen at h2; omega
  clear h hA
  go_enter Tryd.func6, Tryd.ntmps6
  go_wp2_with (go_at_call 17; refine kN.mono ?_; rintro e w1 ⟨rfl, hl1, hb1⟩; have HM1 := hidW (show Mk w (w.heap.size + 1) w.heap.size n size (List.replicate n PB.none) w1 from ⟨hl1, HO.out, hb1, by omega, Nat.le_refl _⟩); clear hl1 hb1)
  go_loopw [9] (fun s9 wr => ∃ k : Nat, s9 = .int .i64 (k : Int) ∧ k ≤ m ∧ Hid (Mk w (w.heap.size + 1) w.heap.size n size (madeF size n (os.take k)) wr)) (fun s9 _ => m - (intOf s9).toNat)
  case atStart => exact ⟨0, rfl, by omega, HM1⟩
  case round =>
    obtain ⟨k, rfl, hk, HK⟩ := hrel
    by_cases hkl : k < m
    · have h1 : k < os.length := by rw [← HL.out]; exact hkl
      obtain ⟨o, ho⟩ : ∃ o, os[k]? = some o := ⟨_, List.getElem?_eq_getElem h1⟩
      rcases orow_later HA.out HK.out.bel with e | ⟨b, off, rfl, hc⟩
      · rw [e] at h1; simp at h1
      · obtain ⟨q0, q1, q2⟩ := hc k o ho
        have kO := one_any HK.out.bk HK.out.ok o
        have e1 : madeF size n (os.take (k + 1)) = opF size (madeF size n (os.take k)) o := by
          unfold madeF
          rw [List.take_add_one, ho]
          simp
        have HE := hidW e1
        have hlt : (k : Int) < (m : Int) := by omega
        have hk0 : ¬ (k : Int) < 0 := by omega
        have HKL := hidW hkl
        clear h1 ho hc e1 hkl
        go_wp2_with (go_at_call 18; refine kO.mono ?_; rintro e w2 ⟨⟨b2, rfl⟩, hl2⟩; have HM2 := hidW (HK.out.left hl2 (op_ok HK.out.ok o)); clear hl2)
        go_roundw
        case rel => exact ⟨k + 1, by go_num, HKL.out, by rw [HE.out]; exact HM2⟩
        case measure => simp [intOf]; have := HKL.out; omega
    · have hlt : ¬ (k : Int) < (m : Int) := by omega
      have e1 : os.take k = os := List.take_of_length_le (by rw [← HL.out]; omega)
      rw [e1] at HK
      clear hkl e1
      go_wp2
      go_ret
      exact ⟨rfl, HK.out⟩
end Go.Proofs.YtjbdjicciakibaaDoor
