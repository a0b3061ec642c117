/-
  The document's answer of Clean.
-/
import Derived.Test.YtnhoaafpdckmjaaNRefE
namespace Go.Proofs.Ytnhoaafpdckmjaa
open Go.RowKit Go.Shelf M

theorem rsplit_at (s : List UInt8) (b : Bool) (z : Int) (ps : List ByteArray) (hb : b = ends s) (hz : z = err s) (hp : ps = (told s).map bs) (w : World) :
    Calls Try.prog 10 #[.string (bs s)] w fun e w' => ∃ a cap, e = .returned (.tuple #[.agg #[.slice a ps.length cap, .bool b], .int .i64 z]) ∧ SRow w' a ps ∧ Below w.heap.size w w' := by
  subst hb hz hp
  refine (rsplit_any s w).mono ?_
  rintro e w' ⟨a, n, cap, rfl, rfl, h1, h2⟩
  exact ⟨a, cap, by rw [List.length_map], h1, h2⟩

set_option maxHeartbeats 1000000 in
theorem rclean_err (s : List UInt8) (z : Int) (hz : z = err s) (he : z ≠ 0) (w : World) :
    Calls Try.prog 18 #[.string (bs s)] w fun e w' => e = .returned (.tuple #[.string ⟨#[]⟩, .int .i64 z]) ∧ Below w.heap.size w w' := by
  have hs := rsplit_at s (ends s) z _ rfl hz rfl w
  obtain ⟨S, hS⟩ : ∃ S, S = bs s := ⟨_, rfl⟩
  rw [← hS] at hs ⊢
  have e1 : (z == 0) = false := by simpa using he
  clear hS hz he
  go_enter Try.func18, Try.ntmps18
  go_wp2_with (go_at_call 10; refine hs.mono ?_; rintro e w1 ⟨a, cap, rfl, hr, hb⟩)
  go_ret2
  exact ⟨rfl, hb.alloc hb.size _⟩

theorem left_weigh {ps : List ByteArray} {n : Nat} (hq : ∀ p ∈ datas ps, p.length ≤ 24) (h : n = ps.length) (h32 : n ≤ 32) : weigh (leftS ps n) ≤ 4194304 := by
  rw [← slashed_weigh, left_all h]
  have h1 := lefts_length (datas ps)
  have h2 : (datas ps).length = ps.length := datas_length ps
  have := slashed_le (ps := lefts (datas ps)) (by omega) (fun p hp => hq p (lefts_mem hp))
  omega

set_option maxRecDepth 100000 in
set_option maxHeartbeats 2000000 in
theorem rclean_ok (s : List UInt8) (he : err s = 0) (w : World) :
    Calls Try.prog 18 #[.string (bs s)] w fun e w' => e = .returned (.tuple #[.string (bs (joined (lefts (parts s)))), .int .i64 0]) ∧ Below w.heap.size w w' := by
  have ht : told s = parts s := by unfold told; rw [if_pos he]
  obtain ⟨_, _, _, hq1, hq2⟩ := err_zero.1 he
  obtain ⟨ps, hps⟩ : ∃ ps, ps = (told s).map bs := ⟨_, rfl⟩
  have hs := rsplit_at s (ends s) 0 ps rfl he.symm hps w
  rw [ht] at hps
  have HD : Hid (datas ps = parts s) := by show _ = _; rw [hps, datas_bs]
  have hlen : ps.length ≤ 32 := by rw [hps, List.length_map]; exact hq1
  rw [← HD.out] at hq2 ⊢
  have HQ : Hid (∀ p ∈ datas ps, p.length ≤ 24) := hq2
  obtain ⟨S, hS⟩ : ∃ S, S = bs s := ⟨_, rfl⟩
  obtain ⟨E, hE⟩ : ∃ E, E = ends s := ⟨_, rfl⟩
  rw [← hS, ← hE] at hs
  rw [← hS]
  clear hS hE hps ht hq1 hq2 he
  obtain ⟨n, hn⟩ : ∃ n, n = ps.length := ⟨_, rfl⟩
  rw [← hn] at hs hlen
  have HN : Hid (n = ps.length) := hn
  clear hn
  go_enter Try.func18, Try.ntmps18
  go_wp2_with (go_at_call 10; refine hs.mono ?_; rintro e w1 ⟨a, cap, rfl, hr, hb⟩)
  have HB : Hid (Below w.heap.size w w1) := hb
  have HR1 : Hid (SRow w1 a ps) := hr
  clear hs hr hb
  obtain ⟨w2, hw2⟩ : ∃ w2, w2 = w1.alloc (Obj.cells #[Value.slice a n cap, Value.bool E] 28) := ⟨_, rfl⟩
  have hs2 : w2.heap.size = w1.heap.size + 1 := by rw [hw2, World.size_alloc]
  have HB2 : Hid (Below w1.heap.size w1 w2) := by rw [hw2]; exact below_new _ _
  have HK2 : Hid (Blk w2 w1.heap.size #[Value.slice a n cap, Value.bool E] 28) := by rw [hw2]; exact World.alloc_heap_new w1 _
  rw [← hw2]
  have HR2 : Hid (SRow w2 a ps) := HR1.out.later HB2.out
  clear hw2
  go_loopw [6, 7] (fun s6 s7 wr => ∃ (k m cap' : Nat) (a6 : Option Addr), k ≤ n ∧ s7 = .int .i64 k ∧ m = (leftS ps k).length ∧ s6 = .slice a6 m cap' ∧ wr.ownsRow w2.heap.size 9 1 (.slice a6 m cap') m ((leftS ps k).map Value.string) ∧ Below w2.heap.size w2 wr)
    (fun _ s7 _ => n - (intOf s7).toNat)
  case atStart => exact ⟨0, 0, 0, none, by omega, rfl, rfl, rfl, World.ownsRow_nil _ _ _ _, Below.refl _ _⟩
  case round =>
    obtain ⟨k, m, cap', a6, hk, rfl, hm, rfl, hown, hbr⟩ := hrel
    have HM : Hid (m = (leftS ps k).length) := hm
    have hm32 : m ≤ 32 := by have := leftS_length ps k; omega
    have HO : Hid (wr.ownsRow w2.heap.size 9 1 (.slice a6 m cap') m ((leftS ps k).map Value.string)) := hown
    have HBR : Hid (Below w2.heap.size w2 wr) := hbr
    have hwr := hbr.size
    have hc0 := (HK2.out.later HBR.out).cell0
    clear hm hown hbr
    by_cases hlt : k < n
    · have hkl : k < ps.length := by have := HN.out; omega
      obtain ⟨b1, o1, rfl, hc1⟩ : ∃ b off, a = some ⟨b, off, none⟩ ∧ ∀ i, i < ps.length → wr.cell? ⟨b, off + i, none⟩ = some (.string (ps.getD i ByteArray.empty)) := by
        rcases HR2.out.later HBR.out with h | h
        · rw [h] at hkl; simp at hkl
        · exact h
      have g1 := hc1 k hkl
      clear hc1
      generalize hxk : ps.getD k ByteArray.empty = x at g1
      have HX : Hid (x = ps.getD k ByteArray.empty) := hxk.symm
      clear hxk
      have HL : Hid (k < ps.length) := hkl
      clear hkl
      by_cases d1 : x.data.toList = [46]
      · have e1 : (x.toList == [46]) = true := by rw [ByteArray.toList_eq, d1]; rfl
        go_wp2
        go_roundw
        case rel => exact ⟨k + 1, m, cap', a6, by omega, by go_num, by rw [leftS_dot HL.out HX.out d1]; exact HM.out, rfl, by rw [leftS_dot HL.out HX.out d1]; exact HO.out, HBR.out⟩
        case measure => simp [intOf]; omega
      · have e1 : (x.toList == [46]) = false := by rw [ByteArray.toList_eq]; simpa using d1
        by_cases d2 : x.data.toList = [46, 46]
        · have e2 : (x.toList == [46, 46]) = true := by rw [ByteArray.toList_eq, d2]; rfl
          by_cases hm0 : m = 0
          · have HE : Hid (leftS ps k = []) := List.eq_nil_of_length_eq_zero (by rw [← HM.out]; exact hm0)
            have hm0' : ¬ (0 : Int) < (m : Int) := by omega
            clear hm0
            go_wp2
            go_roundw
            case rel => exact ⟨k + 1, m, cap', a6, by omega, by go_num, by rw [leftS_up HL.out HX.out d2, HE.out, HM.out, HE.out]; rfl, rfl, by rw [leftS_up HL.out HX.out d2, HE.out]; have := HO.out; rw [HE.out] at this; exact this, HBR.out⟩
            case measure => simp [intOf]; omega
          · obtain ⟨g, rfl⟩ : ∃ g, a6 = some ⟨g, 0, none⟩ := by
              rcases HO.out.2 with ⟨_, h⟩ | ⟨g', c', cur, hv, _⟩
              · exact absurd h hm0
              · cases hv; exact ⟨g', rfl⟩
            have hmc : m ≤ cap' := by
              rcases HO.out.2 with ⟨h, _⟩ | ⟨g', c', cur, hv, _, _, h, _⟩
              · cases h
              · cases hv; exact h
            have hm0' : (0 : Int) < (m : Int) := by omega
            have hmx : (m : Int) - 1 = ((m - 1 : Nat) : Int) := by omega
            have hmx2 : ((m - 1 : Nat) : Int) ≤ (cap' : Int) := by omega
            clear hm0
            go_wp2
            go_roundw
            case rel => exact ⟨k + 1, m - 1, cap', _, by omega, by go_num, by rw [leftS_up HL.out HX.out d2, List.length_dropLast, ← HM.out], rfl, by rw [leftS_up HL.out HX.out d2]; exact owns_less HO.out, HBR.out⟩
            case measure => simp [intOf]; omega
        · have e2 : (x.toList == [46, 46]) = false := by rw [ByteArray.toList_eq]; simpa using d2
          go_wp2_with (at_builtin; go_must (refine wpList_append_strs rfl (.tmp 28) (.tmp 34) rfl w2.heap.size (.slice a6 m cap') m ((leftS ps k).map Value.string) rfl (HO.out.alloc _) (some ⟨wr.heap.size, 0, none⟩) 1 1 [x] rfl rfl (one_row _ _) (fun h => by cases h) (by unfold maxLen; omega) (by omega) (by simp; omega) ?_); intro v' w5 hown' hgrow; obtain ⟨g', cap2, rfl⟩ := ownsRow_succ hown'; have hb5 := grown_own (HBR.out.alloc hwr _) hgrow (by simp; omega) (HO.out.alloc _))
          go_roundw
          case rel => exact ⟨k + 1, m + 1, cap2, _, by omega, by go_num, by rw [leftS_else HL.out HX.out d1 d2, List.length_append, ← HM.out]; rfl, rfl, by rw [leftS_else HL.out HX.out d1 d2, List.map_append]; exact hown', hb5⟩
          case measure => simp [intOf]; omega
    · have hkn : k = n := by omega
      subst hkn
      have HJ := rjoin_any a6 m cap' (leftS ps k) wr HM.out (by obtain ⟨a', c', hv, hr, _⟩ := owns_row' HM.out HO.out; cases hv; exact hr) (left_weigh HQ.out HN.out hlen)
      rw [left_all HN.out] at HJ
      go_wp2_with (go_at_call 20; refine HJ.mono ?_; rintro e w6 ⟨rfl, rfl⟩)
      go_ret2
      exact ⟨rfl, (HB.out.trans (HB2.out.mono HB.out.size)).trans (HBR.out.mono (by have := HB.out.size; omega))⟩

theorem rclean_any (s : List UInt8) (w : World) :
    Calls Try.prog 18 #[.string (bs s)] w fun e w' => e = .returned (.tuple #[.string (bs (cleaned s)), .int .i64 (err s)]) ∧ Below w.heap.size w w' := by
  unfold cleaned
  by_cases h : err s = 0
  · rw [if_pos h, h]; exact rclean_ok s h w
  · rw [if_neg h]; exact rclean_err s (err s) rfl h w
end Go.Proofs.Ytnhoaafpdckmjaa
