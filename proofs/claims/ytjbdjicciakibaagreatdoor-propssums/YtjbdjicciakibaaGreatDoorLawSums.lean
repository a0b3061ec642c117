/-
  For all numbers and scripts: PropsSums answers true (of each block the needed bytes are no more than the used, those no more than there are; the totals are the sums of all), and leaves its arguments as they were; given that the five variables of the library that it reaches hold what their initialisers lay (the card ties them).
-/
import Derived.Test.YtjbdjicciakibaaGreatDoorBSums
namespace Go.Proofs.YtjbdjicciakibaaGreatDoor.propsSums
open Go.ChangeShapes Go.WideShapes Go.ChangeAt Go.RowKit
set_option maxRecDepth 10000

set_option maxHeartbeats 4000000 in
theorem walk_no (n size : Int) (h : ¬ newOk n size) (a : Option Addr) (m cap : Nat) (w : World) (hg : Gl w) :
    Calls Tryz.prog 5 #[.int .i64 n, .int .i64 size, .slice a m cap] w fun e w' => e = .returned (.bool true) ∧ Below w.heap.size w w' := by
  have kM := made_no n size h a m cap w
  have HG := hidW hg
  clear h hg
  go_enter Tryz.func5, Tryz.ntmps5
  go_wp2_with (first
    | (go_at_call 14; refine kM.mono ?_; rintro e w1 ⟨rfl, hb1⟩; have HB1 := hidW hb1; clear hb1)
    | (go_at_call 8; refine (alive_any _ (HG.out.later HB1.out)).mono ?_; rintro e w2 ⟨rfl, hb2⟩; have HB2 := hidW (Below.after HB1.out hb2); clear hb2))
  go_ret
  exact ⟨rfl, HB2.out⟩
theorem made_len (size : Int) (n : Nat) (os : List BOp) : (madeF size n os).length = n := by
  unfold madeF
  have : ∀ (os : List BOp) (l : List PB), (os.foldl (opF size) l).length = l.length := by
    intro os
    induction os with
    | nil => intro l; rfl
    | cons o os ih =>
      intro l
      rw [List.foldl_cons, ih]
      unfold opF
      split
      · exact take_len _ _ _
      · split
        · exact use_len _ _ _ _
        · split
          · exact kill_len _ _ _
          · split
            · exact close_len _ _
            · split
              · exact free_len _ _
              · rfl
  rw [this, List.length_replicate]
def frB : PB → Bool := fun x => decide (x.use = 0)
set_option maxHeartbeats 8000000 in
theorem walk_go (n : Nat) (size : Int) (h : newOk n size) (a : Option Addr) (m cap : Nat) (os : List BOp) (w : World) (hA : OArg w a m cap os) (hg : Gl w) :
    Calls Tryz.prog 5 #[.int .i64 (n : Nat), .int .i64 size, .slice a m cap] w fun e w' => e = .returned (.bool true) ∧ Below w.heap.size w w' := by
  have kM := made_go n size h a m cap os w hA
  have hnl := made_len size n os
  obtain ⟨l, hl⟩ : ∃ l, l = madeF size n os := ⟨_, rfl⟩
  rw [← hl] at kM hnl
  have HG := hidW hg
  have HN := hidW hnl
  have hn256 : (n : Int) ≤ 256 := h.2.1
  have hs2 := h.2.2.2
  clear h hA hg hl hnl
  go_enter Tryz.func5, Tryz.ntmps5
  go_wp2_with (go_at_call 14; refine kM.mono ?_; rintro e w1 ⟨rfl, hm1⟩; have HM1 := hidW hm1; clear hm1)
  go_loopw [8, 9, 10, 11] (fun s8 s9 s10 s11 wr => ∃ (k F : Nat) (U L : Int), s8 = .int .i64 (F : Nat) ∧ s9 = .int .i64 U ∧ s10 = .int .i64 L ∧ s11 = .int .i64 (k : Int) ∧ k ≤ n ∧ F ≤ k ∧ 0 ≤ L ∧ L ≤ U ∧ U ≤ 5000000000 ∧ Hid (F = cnt frB (l.take k) ∧ U = sumU (l.take k) ∧ L = sumL (l.take k)) ∧ Hid (Mk w (w.heap.size + 1) w.heap.size n size l wr)) (fun _ _ _ s11 _ => n - (intOf s11).toNat)
  case atStart => exact ⟨0, 0, 0, 0, rfl, rfl, rfl, rfl, by omega, by omega, by omega, by omega, by omega, ⟨rfl, rfl, rfl⟩, HM1⟩
  case round =>
    obtain ⟨k, F, U, L, rfl, rfl, rfl, rfl, hk, hF, b1, b2, b3, HS, HK⟩ := hrel
    by_cases hkl : k < n
    · have h1 : k < l.length := by rw [HN.out]; exact hkl
      obtain ⟨x, hx⟩ : ∃ x, l[k]? = some x := ⟨_, List.getElem?_eq_getElem h1⟩
      have hok := HK.out.ok.ok x (List.mem_of_getElem? hx)
      have eT : l.take (k + 1) = l.take k ++ [x] := by rw [List.take_add_one, hx]; rfl
      have eU : sumU (l.take (k + 1)) = U + x.used := by rw [eT, sumU_snoc, HS.out.2.1]
      have eL : sumL (l.take (k + 1)) = L + x.live := by rw [eT, sumL_snoc, HS.out.2.2]
      have bnd := (sums_le (by have := HK.out.ok.s1; omega) (l.take (k + 1)) (fun y hy => HK.out.ok.ok y (List.mem_of_mem_take hy))).2.2
      have bnd2 : U + x.used ≤ 5000000000 := by
        rw [← eU]
        refine Int.le_trans bnd ?_
        have h5 : (((l.take (k + 1)).length : Nat) : Int) ≤ 256 := by rw [List.length_take]; omega
        have h6 : (((l.take (k + 1)).length : Nat) : Int) * size ≤ 256 * 16777216 := Int.mul_le_mul h5 hs2 (by have := HK.out.ok.s1; omega) (by decide)
        omega
      have eF : cnt frB (l.take (k + 1)) = F + (if frB x = true then 1 else 0) := by rw [eT, cnt_snoc, ← HS.out.1]
      have HE := hidW (And.intro eF (And.intro eU eL))
      have hlt : (k : Int) < (n : Int) := by omega
      have HKL := hidW hkl
      have HX := hidW hx
      have HOk := hidW hok
      clear h1 hx hkl eT eU eL eF bnd hok
      by_cases hu : x.use = 0
      · have hx0 := HOk.out.free hu
        subst hx0
        have eF1 : cnt frB (l.take (k + 1)) = F + 1 := HE.out.1
        have HF1 := hidW eF1
        have hs0 : ¬ size < 0 := by have := HK.out.ok.s1; omega
        clear hu eF1
        go_wp2_with (go_at_call 15; refine (block_go HK.out.bk k PB.none HX.out).mono ?_; rintro e u1 ⟨rfl, hb1⟩; have HK1 := hidW (HK.out.later (Below.after hb1 (below_new u1 (.cells #[.int .i64 0, .int .i64 0, .int .i64 0, .bool false] 42)))); clear hb1 HK; simp only [PB.none])
        go_roundw
        case rel => exact ⟨k + 1, F + 1, U, L, by go_num, rfl, rfl, by go_num, HKL.out, by omega, b1, b2, b3, ⟨HF1.out.symm, by have := HE.out.2.1; rw [this]; simp [PB.none], by have := HE.out.2.2; rw [this]; simp [PB.none]⟩, HK1⟩
        case measure => simp [intOf]; have := HKL.out; omega
      · have eF1 : cnt frB (l.take (k + 1)) = F := by have := HE.out.1; rw [this, if_neg (by unfold frB; simp [hu])]; rfl
        have HF1 := hidW eF1
        have e0 : (x.use == 0) = false := by simpa using hu
        have t1 : ¬ x.live < 0 := by have := HOk.out.l0; omega
        have t2 : ¬ x.used < x.live := by have := HOk.out.lu; omega
        have t3 : ¬ size < x.used := by have := HOk.out.us; omega
        have t4 : ¬ x.use < 0 := by have := HOk.out.use0; omega
        have t5 : ¬ 3 < x.use := by have := HOk.out.use3; omega
        clear hu eF1
        go_wp2_with (go_at_call 15; refine (block_go HK.out.bk k x HX.out).mono ?_; rintro e u1 ⟨rfl, hb1⟩; have HK1 := hidW (HK.out.later (Below.after hb1 (below_new u1 (.cells #[.int .i64 x.use, .int .i64 x.used, .int .i64 x.live, .bool x.closed] 42)))); clear hb1 HK)
        go_roundw
        case rel => exact ⟨k + 1, F, U + x.used, L + x.live, rfl, by go_num, by go_num, by go_num, HKL.out, by omega, by omega, by omega, bnd2, ⟨HF1.out.symm, HE.out.2.1.symm, HE.out.2.2.symm⟩, HK1⟩
        case measure => simp [intOf]; have := HKL.out; omega
    · have hlt : ¬ (k : Int) < (n : Int) := by omega
      have hkk : l.take k = l := List.take_of_length_le (by rw [HN.out]; omega)
      have HS2 := HS
      rw [hkk] at HS2
      have hn2 : l.length ≤ 256 := HK.out.ok.n2
      have eFr : (freesF l).length = F := by unfold freesF; rw [those_cnt]; exact HS2.out.1.symm
      have eAll := cnt_all l HK.out.ok.ok
      have eO1 : (thoseF (ofB 1) 0 l).length = cnt (ofB 1) l := those_cnt _ _ _
      have eO2 : (thoseF (ofB 2) 0 l).length = cnt (ofB 2) l := those_cnt _ _ _
      have eO3 : (thoseF (ofB 3) 0 l).length = cnt (ofB 3) l := those_cnt _ _ _
      have eSum : F + (thoseF (ofB 1) 0 l).length + (thoseF (ofB 2) 0 l).length + (thoseF (ofB 3) 0 l).length = n := by
        rw [eO1, eO2, eO3, ← HN.out, ← eAll, HS2.out.1]; rfl
      have kT := totals_any HK.out.bk HK.out.ok
      rw [eFr, ← HS2.out.2.1, ← HS2.out.2.2] at kT
      obtain ⟨A, hA⟩ : ∃ A, A = freesF l := ⟨_, rfl⟩
      have kL := hidW (fun (W : World) (hW : BLies W (w.heap.size + 1) w.heap.size n size l) => least_any hW hn2)
      have kF := hidW (fun (W : World) (hW : BLies W (w.heap.size + 1) w.heap.size n size l) => frees_any hW hn2)
      have kO := hidW (fun (W : World) (u : Int) (hW : BLies W (w.heap.size + 1) w.heap.size n size l) => of_any hW hn2 u)
      rw [← hA] at kL kF eFr
      obtain ⟨n1, hn1⟩ : ∃ n1, n1 = (thoseF (ofB 1) 0 l).length := ⟨_, rfl⟩
      obtain ⟨n2, hn2'⟩ : ∃ n2, n2 = (thoseF (ofB 2) 0 l).length := ⟨_, rfl⟩
      obtain ⟨n3, hn3⟩ : ∃ n3, n3 = (thoseF (ofB 3) 0 l).length := ⟨_, rfl⟩
      rw [← hn1, ← hn2', ← hn3] at eSum
      have HN1 := hidW hn1
      have HN2 := hidW hn2'
      have HN3 := hidW hn3
      have HFr := hidW eFr
      clear hkl hkk eAll eO1 eO2 eO3 hn1 hn2' hn3 eFr hA HS HS2
      have eS : ((F : Int) + (n1 : Int) + (n2 : Int) + (n3 : Int) == (n : Int)) = true := by simp; omega
      have hF0 : (F : Int) ≤ 256 := by omega
      have hq1 : (n1 : Int) ≤ 256 := by omega
      have hq2 : (n2 : Int) ≤ 256 := by omega
      have hq3 : (n3 : Int) ≤ 256 := by omega
      have kO' := hidW (fun (W : World) (u : Int) (hW : BLies W (w.heap.size + 1) w.heap.size n size l) => show Calls Tryz.prog 19 #[.pointer (some ⟨w.heap.size + 1, 0, none⟩), .int .i64 u] W fun e w' => ∃ a cc, e = .returned (.slice a (thoseF (ofB u) 0 l).length cc) ∧ Below W.heap.size W w' from (kO.out W u hW).mono (by
        rintro e w' ⟨v, rfl, ho, hb⟩
        obtain ⟨a, cc, rfl, _⟩ := ho.form
        exact ⟨a, cc, rfl, hb⟩))
      clear kO eSum
      cases hA0 : A with
      | nil =>
        rw [hA0] at kL kF HFr
        have hFz : F = 0 := HFr.out.symm
        have kL' := hidW (fun W hW => show Calls Tryz.prog 17 #[.pointer (some ⟨w.heap.size + 1, 0, none⟩)] W fun e w' => e = .returned (.tuple #[.int .i64 0, .bool false]) ∧ Below W.heap.size W w' from (kL.out W hW).mono (by
          rintro e w' ⟨rfl, hb⟩
          exact ⟨by simp, hb⟩))
        have kF' := hidW (fun W hW => show Calls Tryz.prog 18 #[.pointer (some ⟨w.heap.size + 1, 0, none⟩)] W fun e w' => ∃ a cc, e = .returned (.slice a F cc) ∧ Below W.heap.size W w' from (kF.out W hW).mono (by
          rintro e w' ⟨v, rfl, ho, hb⟩
          obtain ⟨a, cc, rfl, _⟩ := ho.form
          exact ⟨a, cc, by rw [hFz]; rfl, hb⟩))
        have hFz2 : ¬ (0 : Int) < (F : Int) := by omega
        clear hA0 kL kF hFz
        go_wp2_with (first
          | (go_at_call 16; refine kT.mono ?_; rintro e v1 ⟨rfl, hb1⟩; have HK1 := hidW (HK.out.later hb1); clear hb1)
          | (go_at_call 17; refine (kL'.out _ HK1.out.bk).mono ?_; rintro e v2 ⟨rfl, hb2⟩; have HK2 := hidW (HK1.out.later hb2); clear hb2)
          | (go_at_call 18; refine (kF'.out _ HK2.out.bk).mono ?_; rintro e v3 ⟨a3, cc3, rfl, hb3⟩; have HK3 := hidW (HK2.out.later hb3); clear hb3 HK2)
          | (go_at_call 18; refine (kF'.out _ HK3.out.bk).mono ?_; rintro e v4 ⟨a4, cc4, rfl, hb4⟩; have HK4 := hidW (HK3.out.later hb4); clear hb4 HK3)
          | (go_at_call 19; refine (kO'.out _ 1 HK4.out.bk).mono ?_; rintro e v5 ⟨a5, cc5, rfl, hb5⟩; have HK5 := hidW (HK4.out.later hb5); rw [← HN1.out]; clear hb5 HK4)
          | (go_at_call 19; refine (kO'.out _ 2 HK5.out.bk).mono ?_; rintro e v6 ⟨a6, cc6, rfl, hb6⟩; have HK6 := hidW (HK5.out.later hb6); rw [← HN2.out]; clear hb6 HK5)
          | (go_at_call 19; refine (kO'.out _ 3 HK6.out.bk).mono ?_; rintro e v7 ⟨a7, cc7, rfl, hb7⟩; have HK7 := hidW (HK6.out.later hb7); rw [← HN3.out]; clear hb7 HK6)
          | (go_at_call 8; refine (alive_any _ (HG.out.later HK7.out.bel)).mono ?_; rintro e v9 ⟨rfl, hb9⟩; have HB9 := hidW (Below.after HK7.out.bel hb9); clear hb9))
        go_ret
        exact ⟨rfl, HB9.out⟩
      | cons y r =>
        rw [hA0] at kL kF HFr
        have hF1 : F = r.length + 1 := by have := HFr.out; simp at this; omega
        have hFp : (0 : Int) < (F : Int) := by omega
        have kL' := hidW (fun W hW => show Calls Tryz.prog 17 #[.pointer (some ⟨w.heap.size + 1, 0, none⟩)] W fun e w' => e = .returned (.tuple #[.int .i64 y, .bool true]) ∧ Below W.heap.size W w' from (kL.out W hW).mono (by
          rintro e w' ⟨rfl, hb⟩
          exact ⟨by simp, hb⟩))
        have kF' := hidW (fun W hW => show Calls Tryz.prog 18 #[.pointer (some ⟨w.heap.size + 1, 0, none⟩)] W fun e w' => ∃ b off cc, e = .returned (.slice (some ⟨b, off, none⟩) F cc) ∧ w'.cell? ⟨b, off, none⟩ = some (.int .i64 y) ∧ Below W.heap.size W w' from (kF.out W hW).mono (by
          rintro e w' ⟨v, rfl, ho, hb⟩
          obtain ⟨a, cc, rfl, hr⟩ := ho.form
          rcases hr with hr | ⟨b, off, rfl, hr⟩
          · cases hr
          · exact ⟨b, off, cc, by rw [hF1]; rfl, hr 0 y rfl, hb⟩))
        clear hA0 kL kF hF1
        go_wp2_with (first
          | (go_at_call 16; refine kT.mono ?_; rintro e v1 ⟨rfl, hb1⟩; have HK1 := hidW (HK.out.later hb1); clear hb1)
          | (go_at_call 17; refine (kL'.out _ HK1.out.bk).mono ?_; rintro e v2 ⟨rfl, hb2⟩; have HK2 := hidW (HK1.out.later hb2); clear hb2)
          | (go_at_call 18; refine (kF'.out _ HK2.out.bk).mono ?_; rintro e v3 ⟨a3, o3, cc3, rfl, _, hb3⟩; have HK3 := hidW (HK2.out.later hb3); clear hb3 HK2)
          | (go_at_call 18; refine (kF'.out _ HK3.out.bk).mono ?_; rintro e v4 ⟨a4, o4, cc4, rfl, _, hb4⟩; have HK4 := hidW (HK3.out.later hb4); clear hb4 HK3)
          | (go_at_call 19; refine (kO'.out _ 1 HK4.out.bk).mono ?_; rintro e v5 ⟨a5, cc5, rfl, hb5⟩; have HK5 := hidW (HK4.out.later hb5); rw [← HN1.out]; clear hb5 HK4)
          | (go_at_call 19; refine (kO'.out _ 2 HK5.out.bk).mono ?_; rintro e v6 ⟨a6, cc6, rfl, hb6⟩; have HK6 := hidW (HK5.out.later hb6); rw [← HN2.out]; clear hb6 HK5)
          | (go_at_call 19; refine (kO'.out _ 3 HK6.out.bk).mono ?_; rintro e v7 ⟨a7, cc7, rfl, hb7⟩; have HK7 := hidW (HK6.out.later hb7); rw [← HN3.out]; clear hb7 HK6)
          | (go_at_call 18; refine (kF'.out _ HK7.out.bk).mono ?_; rintro e v8 ⟨a8, o8, cc8, rfl, c8, hb8⟩; have HK8 := hidW (HK7.out.later hb8); clear hb8 HK7)
          | (go_at_call 8; refine (alive_any _ (HG.out.later HK8.out.bel)).mono ?_; rintro e v9 ⟨rfl, hb9⟩; have HB9 := hidW (Below.after HK8.out.bel hb9); clear hb9))
        go_ret
        exact ⟨rfl, HB9.out⟩
theorem walk (n size : Int) (a : Option Addr) (m cap : Nat) (os : List BOp) (w : World) (hg : Gl w) (hA : OArg w a m cap os) :
    Calls Tryz.prog 5 #[.int .i64 n, .int .i64 size, .slice a m cap] w fun e w' => e = .returned (.bool true) ∧ Below w.heap.size w w' := by
  by_cases h : newOk n size
  · obtain ⟨k, rfl⟩ : ∃ k : Nat, n = (k : Int) := ⟨n.toNat, by have := h.1; omega⟩
    exact walk_go k size h a m cap os w hA hg
  · exact walk_no n size h a m cap w hg
set_option maxHeartbeats 2000000 in
set_option maxRecDepth 100000 in
theorem contract (H : Type) (enc : TypeId × Value → H) (W : World) (base : Nat) (args : Array Value) (ds gs : List (DataW H)) (before : List MemPlace)
    (hval : ∀ (j : Nat) t v, Tryz.f5.params[j]? = some t → args[j]? = some v → Value.okWide Tryz.prog W .any base t v)
    (hW : DataW.Whole enc Tryz.prog Tryz.f5.params.toList Rows.propsSumsSpec.vars false W args.toList ds gs before) (hL : laidMetH Tryz.prog laid W)
    : Calls Tryz.prog 5 args W fun e W' => ∃ v, e = .returned v ∧ Rows.propsSumsSpec.post enc Tryz.prog Tryz.f5 false true false false W args v W' := by
  have hW' := hW
  obtain ⟨p, q, hA0, hV, rfl, hfz, hnd⟩ := hW
  have hA : DataW.TrodAll enc Tryz.prog W 0 (fun _ => true) true Tryz.f5.params.toList args.toList ds p := hA0
  rw [Tryz.params5] at hA hval
  obtain ⟨v0, vs0, d0, ds0, p0, q0, hargs, rfl, rfl, h0, r0⟩ := trodAll_cons hA
  obtain ⟨v1, vs1, d1, ds1, p1, q1, rfl, rfl, rfl, h1, r1⟩ := trodAll_cons r0
  obtain ⟨v2, vs2, d2, ds2, p2, q2, rfl, rfl, rfl, h2, r2⟩ := trodAll_cons r1
  obtain ⟨rfl, rfl, rfl⟩ := trodAll_nil r2
  obtain rfl : args = #[v0, v1, v2] := by cases args; simp_all
  obtain ⟨rfl, rfl⟩ := trodVars_none hV
  obtain ⟨a0, rfl, rfl, rfl, w0⟩ := open_int Tryz.underlying3 (hval 0 3 v0 rfl rfl) h0
  obtain ⟨a1, rfl, rfl, rfl, w1⟩ := open_int Tryz.underlying3 (hval 1 3 v1 rfl rfl) h1
  obtain ⟨a2, len2, cap2, rfl⟩ := okWide_slice Tryz.underlying22 (hval 2 22 v2 rfl rfl)
  have k2 := h2
  have lt2 : ∀ x ∈ p2, x.block < W.heap.size := by obtain ⟨m, hm⟩ := k2; exact DataW.trod_lt m _ _ _ hm
  obtain ⟨l2, w2⟩ : ∃ l, OArg W a2 len2 cap2 l := by
    obtain ⟨fuel, hf⟩ := h2
    exact oarg_open hf
  clear hA0
  refine (walk a0 a1 a2 len2 cap2 l2 W (gl_of hL) w2).mono fun e W' ⟨he, bel⟩ => ?_
  subst he
  exact ⟨_, rfl, _, _, _, [], _, [], hW', trodAll_mk1 (shut_bool Tryz.underlying4 _), (trodAll_cons_mk (shut_int Tryz.underlying3 w0) (trodAll_cons_mk (shut_int Tryz.underlying3 w1) (trodAll_cons_mk (Below.trod laidOut (by kernel_rfl) (of_decide_eq_true (by kernel_rfl)) k2 bel lt2) trodAll_mk0))), rfl, bel.frame _, fun h => by cases h⟩

theorem reads (os : Os) {H : Type} (enc : TypeId × Value → H) : ∃ places, DataW.whole enc Tryz.prog ((laidWorld os).forCall (fun _ _ => 0) ⟨#[], #[.int .i64 0, .int .i64 0, .slice none 0 0], []⟩).memory Tryz.f5.params.toList Rows.propsSumsSpec.vars false (#[.int .i64 0, .int .i64 0, .slice none 0 0] : Array Value).toList 8 = some ([.lit (.int .i64 0), .lit (.int .i64 0), .nil], [], places) :=
  ⟨[], by kernel_rfl⟩
set_option maxRecDepth 100000 in
theorem lifted (os : Os) (started : os.Started) (H : Type) (enc : TypeId × Value → H) (F : Stop.Interp) :
    ReturnsInHanded {} Tryz.checked os 5 .any ((OpenSpec.ofChange Rows.propsSumsSpec).preRow enc Tryz.prog Tryz.f5 Rows.propsSumsRow.domain false Rows.propsSumsRow.laid) (((OpenSpec.ofChange Rows.propsSumsSpec).at F).post enc Tryz.prog Tryz.f5 false true false false) := by
  obtain ⟨places, hx⟩ := reads os enc
  refine returnsInHanded_of_row (C := Tryz.checked) (s := OpenSpec.ofChange Rows.propsSumsSpec) own started (by kernel_rfl) Tryz.func5
    (witness_row_at (enc := enc) (C := Tryz.checked) false (laidWorld os) #[.int .i64 0, .int .i64 0, .slice none 0 0] (laid_os os) (by kernel_rfl) (by kernel_rfl) (by kernel_rfl)
      (OpenSpec.preRow_of_cond 8 hx (by kernel_rfl) (fun k hk => by cases hk) (by kernel_rfl) (laid_met os _))) ?_
  intro W base args ds gs before hval hW _ _ hsz hL _ _
  exact contract H enc W base args ds gs before hval hW hL
theorem said : Rows.PropsSumsSaid :=
  OpenClaim.holds_of_cond 5 Tryz.f5 rfl rfl rfl rfl rfl rfl rfl ⟨rfl, rfl, rfl, rfl, rfl⟩ rfl rfl rfl rfl rfl (by kernel_rfl) Tryz.func5 (by kernel_rfl)
    (of_decide_eq_true (by kernel_rfl)) (by unfold Func.isWrapper; first | (rw [if_pos (by decide +kernel)]; kernel_rfl) | (rw [if_neg (by decide +kernel)]; exact ⟨rfl, rfl⟩))
    (fun os started H enc _ F => by rw [OpenClaim.pre_eq_preRow]; exact lifted os started H enc F)
set_option maxRecDepth 100000 in
theorem plain (f : FuncId) (fn : Func) (hf : Tryz.pinned.checked.prog.funcNamed "pumice/pumicelaw14.PropsSums" = some f) (hfn : Tryz.pinned.checked.prog.funcs[f]? = some fn) :
    true = Tryz.pinned.checked.prog.looks [] ∧ ∀ (j : Nat) t, fn.params[j]? = some t → Tryz.pinned.checked.prog.wantsStandIn t = false := by
  obtain rfl : f = 5 := Option.some.inj ((show Tryz.prog.funcNamed "pumice/pumicelaw14.PropsSums" = some 5 by kernel_rfl).symm.trans hf) |>.symm
  obtain rfl : fn = Tryz.f5 := (Option.some.inj (Tryz.func5.symm.trans hfn)).symm
  refine ⟨by kernel_rfl, fun j t ht => ?_⟩
  rw [Tryz.params5] at ht
  have hm : t ∈ [3, 3, 22] := by simpa using Array.mem_of_getElem? ht
  have hall : ∀ u ∈ [3, 3, 22], Tryz.prog.wantsStandIn u = false := by
    intro u hu
    simp only [List.mem_cons, List.not_mem_nil, or_false] at hu
    rcases hu with rfl | rfl | rfl
    · exact (show Tryz.prog.wantsStandIn 3 = false by kernel_rfl)
    · exact (show Tryz.prog.wantsStandIn 3 = false by kernel_rfl)
    · exact (show Tryz.prog.wantsStandIn 22 = false by kernel_rfl)
  exact hall t hm
theorem card : Rows.PropsSumsCardSaid :=
  Claim7.holds_tied_plain_at .later [] _ _ _ _ said (fun _ h => by cases h) (by kernel_rfl) (fun _ h => by cases h) propsSums_row_tie rfl ⟨rfl, rfl⟩ (by kernel_rfl) rfl plain (by kernel_rfl)
end Go.Proofs.YtjbdjicciakibaaGreatDoor.propsSums

namespace Go.Proofs.YtjbdjicciakibaaGreatDoor
theorem propsSums_holds : Rows.PropsSumsCardSaid := propsSums.card
#print axioms propsSums_holds
end Go.Proofs.YtjbdjicciakibaaGreatDoor
