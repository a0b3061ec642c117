/-
  For all numbers, scripts and texts: PropsBack answers true (a book's text is read as the book, and nothing else reads as it), and leaves its arguments as they were; given that the five variables of the library that it reaches hold what their initialisers lay (the card ties them).
-/
import Derived.Test.YtjbdjicciakibaaDoorBMade
import Derived.Test.YtjbdjicciakibaaDoorBBack
namespace Go.Proofs.YtjbdjicciakibaaDoor.propsBack
open Go.ChangeShapes Go.WideShapes Go.ChangeAt Go.RowKit
set_option maxRecDepth 10000

set_option maxHeartbeats 4000000 in
theorem walk_no (n size : Int) (h : ¬ newOk n size) (a : Option Addr) (m cap : Nat) (s : ByteArray) (w : World) (hg : Gl w) :
    Calls Tryd.prog 5 #[.int .i64 n, .int .i64 size, .slice a m cap, .string s] w fun e w' => e = .returned (.bool true) ∧ Below w.heap.size w w' := by
  have kM := made_no n size h a m cap w
  have HG := hidW hg
  clear h hg
  go_enter Tryd.func5, Tryd.ntmps5
  go_wp2_with (first
    | (go_at_call 6; refine kM.mono ?_; rintro e w1 ⟨rfl, hb1⟩; have HB1 := hidW hb1; clear hb1)
    | (go_at_call 7; refine (alive_any _ (HG.out.later HB1.out)).mono ?_; rintro e w2 ⟨rfl, hb2⟩; have HB2 := hidW (Below.after HB1.out hb2); clear hb2))
  go_ret
  exact ⟨rfl, HB2.out⟩
/-- Two books with the same blocks. -/
structure Two (w : World) (p q cap p2 q2 cap2 : Nat) (size : Int) (l : List PB) (W : World) : Prop where
  a : Mk w p q cap size l W
  b : BLies W p2 q2 cap2 size l
theorem Two.later {w : World} {p q cap p2 q2 cap2 : Nat} {size : Int} {l : List PB} {W W' : World} (h : Two w p q cap p2 q2 cap2 size l W) (hb : Below W.heap.size W W') : Two w p q cap p2 q2 cap2 size l W' := ⟨h.a.later hb, h.b.later hb⟩
set_option maxHeartbeats 8000000 in
theorem walk_go (n : Nat) (size : Int) (h : newOk n size) (a : Option Addr) (m cap : Nat) (os : List BOp) (s : List UInt8) (w : World) (hA : OArg w a m cap os) (hg : Gl w) (hs : s.length ≤ 281474976710656) :
    Calls Tryd.prog 5 #[.int .i64 (n : Nat), .int .i64 size, .slice a m cap, .string (bs s)] w fun e w' => e = .returned (.bool true) ∧ Below w.heap.size w w' := by
  have kM := made_go n size h a m cap os w hA
  have hnl : (madeF size n os).length = n := by
    unfold madeF
    have : ∀ (os : List BOp) (l : List PB), (os.foldl (opF size) l).length = l.length := by
      intro os
      induction os with
      | nil => intro l; rfl
      | cons o os ih =>
        intro l
        rw [List.foldl_cons, ih]
        unfold opF
        split
        · exact take_len _ _ _
        · split
          · exact use_len _ _ _ _
          · split
            · exact kill_len _ _ _
            · split
              · exact close_len _ _
              · split
                · exact free_len _ _
                · rfl
    rw [this, List.length_replicate]
  obtain ⟨l, hl⟩ : ∃ l, l = madeF size n os := ⟨_, rfl⟩
  rw [← hl] at kM hnl
  obtain ⟨T, hT⟩ : ∃ T, T = textF size l := ⟨_, rfl⟩
  have kT := hidW (fun (W : World) (p q cap : Nat) (hW : BLies W p q cap size l) (hO : BkOk size l) (hp : Pows W) => text_any (w := W) ⟨hW, hp⟩ hO.ok (by have := hO.s1; omega) hO.s2 hO.n2)
  rw [← hT] at kT
  have HG := hidW hg
  have kP := hidW (fun (W : World) (hO : BkOk size l) (hG : Gl W) => parse_any T (by
    have h1 := rowsT_len hO.s2 l 0 hO.ok (by have := hO.n2; omega)
    have h2 := line_len (ns := [(l.length : Int), size]) (fun y hy => by
      have := hO.n2; have := hO.s1; have := hO.s2
      simp at hy
      rcases hy with rfl | rfl <;> constructor <;> omega)
    have h3 := hO.n2
    rw [hT]
    unfold textF
    simp only [List.length_append, List.length_cons, List.length_nil] at h2 ⊢
    omega) W hG.er hG.pw)
  have HPT := hidW (show BkOk size l → parseF T = some (size, l) from fun hO => by rw [hT]; exact parse_text hO)
  have kQ := hidW (fun (W : World) (hG : Gl W) => parse_any s hs W hG.er hG.pw)
  have hqT : ((bs T).toList == (bs T).toList) = true := by rw [bs_eq]; simp
  have HN := hidW hnl
  have hn256 : (n : Int) ≤ 256 := h.2.1
  clear h hA hg hl hT hs hnl
  go_enter Tryd.func5, Tryd.ntmps5
  go_wp2_with (first
    | (go_at_call 6; refine kM.mono ?_; rintro e w1 ⟨rfl, hm1⟩; have HM1 := hidW hm1; clear hm1)
    | (go_at_call 8; refine (kT.out _ _ _ _ HM1.out.bk HM1.out.ok (HG.out.later HM1.out.bel).pw).mono ?_; rintro e w2 ⟨rfl, hb2⟩; have HM2 := hidW (HM1.out.later hb2); clear hb2 HM1)
    | (go_at_call 16; have kP1 := kP.out _ HM2.out.ok (HG.out.later HM2.out.bel); rw [HPT.out HM2.out.ok] at kP1; refine kP1.mono ?_; rintro e w3 ⟨hb3, p2, q2, cap2, rfl, hl3, _, _, _⟩; have HT3 := hidW (show Two w (w.heap.size + 1) w.heap.size n p2 q2 cap2 size l w3 from ⟨HM2.out.later hb3, hl3⟩); clear hb3 hl3 kP1 HM2)
    | (go_at_call 8; refine (kT.out _ _ _ _ HT3.out.b HT3.out.a.ok (HG.out.later HT3.out.a.bel).pw).mono ?_; rintro e w4 ⟨rfl, hb4⟩; have HT4 := hidW (HT3.out.later hb4); clear hb4 HT3)
    | (go_at_call 8; refine (kT.out _ _ _ _ HT4.out.a.bk HT4.out.a.ok (HG.out.later HT4.out.a.bel).pw).mono ?_; rintro e w5 ⟨rfl, hb5⟩; have HT5 := hidW (HT4.out.later hb5); clear hb5 HT4))
  go_loopw [12] (fun s12 wr => ∃ k : Nat, s12 = .int .i64 (k : Int) ∧ k ≤ n ∧ Hid (Two w (w.heap.size + 1) w.heap.size n p2 q2 cap2 size l wr)) (fun s12 _ => n - (intOf s12).toNat)
  case atStart => exact ⟨0, rfl, by omega, HT5⟩
  case round =>
    obtain ⟨k, rfl, hk, HK⟩ := hrel
    by_cases hkl : k < n
    · have h1 : k < l.length := by rw [HN.out]; exact hkl
      obtain ⟨x, hx⟩ : ∃ x, l[k]? = some x := ⟨_, List.getElem?_eq_getElem h1⟩
      have hlt : (k : Int) < (n : Int) := by omega
      have HKL := hidW hkl
      have HX := hidW hx
      clear h1 hx hkl
      go_wp2_with (first
        | (go_at_call 15; refine (block_go HK.out.a.bk k x HX.out).mono ?_; rintro e u1 ⟨rfl, hb1⟩; have HK1 := hidW (HK.out.later (Below.after hb1 (below_new u1 (.cells #[.int .i64 x.use, .int .i64 x.used, .int .i64 x.live, .bool x.closed] 36)))); have r1 := Row.new u1 [.int .i64 x.use, .int .i64 x.used, .int .i64 x.live, .bool x.closed] 36; have HR1 := hidW r1; clear hb1 HK r1)
        | (go_at_call 15; refine (block_go HK1.out.b k x HX.out).mono ?_; rintro e u2 ⟨rfl, hb2⟩; have HK2 := hidW (HK1.out.later (Below.after hb2 (below_new u2 (.cells #[.int .i64 x.use, .int .i64 x.used, .int .i64 x.live, .bool x.closed] 36)))); have r2 := (HR1.out.later hb2).alloc (.cells #[.int .i64 x.use, .int .i64 x.used, .int .i64 x.live, .bool x.closed] 36); have c0 := r2.cell (i := 0) rfl; have c1 := r2.cell (i := 1) rfl; have c2 := r2.cell (i := 2) rfl; have c3 := r2.cell (i := 3) rfl; clear hb2 HK1 r2))
      go_roundw
      case rel => exact ⟨k + 1, by go_num, HKL.out, HK2⟩
      case measure => simp [intOf]; have := HKL.out; omega
    · have hlt : ¬ (k : Int) < (n : Int) := by omega
      have kQ1 := kQ.out wr (HG.out.later HK.out.a.bel)
      clear hkl
      cases hps : parseF s with
      | none =>
        rw [hps] at kQ1
        clear hps
        go_wp2_with (first
          | (go_at_call 16; refine kQ1.mono ?_; rintro e v1 ⟨hb1, rfl⟩; have HB1 := hidW (Below.after HK.out.a.bel hb1); clear hb1 kQ1)
          | (go_at_call 7; refine (alive_any _ (HG.out.later HB1.out)).mono ?_; rintro e v2 ⟨rfl, hb2⟩; have HB2 := hidW (Below.after HB1.out hb2); clear hb2))
        go_ret
        exact ⟨rfl, HB2.out⟩
      | some r =>
        obtain ⟨size2, l2⟩ := r
        rw [hps] at kQ1
        have et := parse_some hps
        have kT2 := hidW (fun (W : World) (p q cap : Nat) (hW : BLies W p q cap size2 l2) (hO : BkOk size2 l2) (hp : Pows W) => text_any (w := W) ⟨hW, hp⟩ hO.ok (by have := hO.s1; omega) hO.s2 hO.n2)
        rw [et] at kT2
        have hqs : ((bs s).toList == (bs s).toList) = true := by rw [bs_eq]; simp
        clear hps et
        go_wp2_with (first
          | (go_at_call 16; refine kQ1.mono ?_; rintro e v1 ⟨hb1, p3, q3, cap3, rfl, hl3, _, _, hO3⟩; have HB1 := hidW (Below.after HK.out.a.bel hb1); have HL3 := hidW (And.intro hl3 hO3); clear hb1 kQ1 hl3 hO3)
          | (go_at_call 8; refine (kT2.out _ _ _ _ HL3.out.1 HL3.out.2 (HG.out.later HB1.out).pw).mono ?_; rintro e v2 ⟨rfl, hb2⟩; have HB2 := hidW (Below.after HB1.out hb2); clear hb2)
          | (go_at_call 7; refine (alive_any _ (HG.out.later HB2.out)).mono ?_; rintro e v3 ⟨rfl, hb3⟩; have HB3 := hidW (Below.after HB2.out hb3); clear hb3))
        go_ret
        exact ⟨rfl, HB3.out⟩
theorem walk (n size : Int) (a : Option Addr) (m cap : Nat) (os : List BOp) (s : ByteArray) (w : World) (hg : Gl w) (hA : OArg w a m cap os) (hs : s.size ≤ 140737488351232) :
    Calls Tryd.prog 5 #[.int .i64 n, .int .i64 size, .slice a m cap, .string s] w fun e w' => e = .returned (.bool true) ∧ Below w.heap.size w w' := by
  by_cases h : newOk n size
  · obtain ⟨k, rfl⟩ : ∃ k : Nat, n = (k : Int) := ⟨n.toNat, by have := h.1; omega⟩
    have := walk_go k size h a m cap os s.data.toList w hA hg (by have h2 : s.data.toList.length = s.size := rfl; omega)
    rw [bs_of] at this
    exact this
  · exact walk_no n size h a m cap s w hg
set_option maxHeartbeats 2000000 in
set_option maxRecDepth 100000 in
theorem contract (H : Type) (enc : TypeId × Value → H) (W : World) (base : Nat) (args : Array Value) (ds gs : List (DataW H)) (before : List MemPlace)
    (hval : ∀ (j : Nat) t v, Tryd.f5.params[j]? = some t → args[j]? = some v → Value.okWide Tryd.prog W .any base t v)
    (hW : DataW.Whole enc Tryd.prog Tryd.f5.params.toList Rows.propsBackSpec.vars false W args.toList ds gs before) (hL : laidMetH Tryd.prog laid W)
    (hsz : (DataW.weightsEach Tryd.prog (Tryd.f5.params.toList ++ Rows.propsBackSpec.plain.varTypes Tryd.prog) (ds ++ gs)).all (· ≤ reachBytes) = true)
    : Calls Tryd.prog 5 args W fun e W' => ∃ v, e = .returned v ∧ Rows.propsBackSpec.post enc Tryd.prog Tryd.f5 false true false false W args v W' := by
  have hW' := hW
  obtain ⟨p, q, hA0, hV, rfl, hfz, hnd⟩ := hW
  have hA : DataW.TrodAll enc Tryd.prog W 0 (fun _ => true) true Tryd.f5.params.toList args.toList ds p := hA0
  rw [Tryd.params5] at hA hval hsz
  obtain ⟨v0, vs0, d0, ds0, p0, q0, hargs, rfl, rfl, h0, r0⟩ := trodAll_cons hA
  obtain ⟨v1, vs1, d1, ds1, p1, q1, rfl, rfl, rfl, h1, r1⟩ := trodAll_cons r0
  obtain ⟨v2, vs2, d2, ds2, p2, q2, rfl, rfl, rfl, h2, r2⟩ := trodAll_cons r1
  obtain ⟨v3, vs3, d3, ds3, p3, q3, rfl, rfl, rfl, h3, r3⟩ := trodAll_cons r2
  obtain ⟨rfl, rfl, rfl⟩ := trodAll_nil r3
  obtain rfl : args = #[v0, v1, v2, v3] := by cases args; simp_all
  obtain ⟨rfl, rfl⟩ := trodVars_none hV
  obtain ⟨a0, rfl, rfl, rfl, w0⟩ := open_int Tryd.underlying3 (hval 0 3 v0 rfl rfl) h0
  obtain ⟨a1, rfl, rfl, rfl, w1⟩ := open_int Tryd.underlying3 (hval 1 3 v1 rfl rfl) h1
  obtain ⟨a2, len2, cap2, rfl⟩ := okWide_slice Tryd.underlying22 (hval 2 22 v2 rfl rfl)
  have k2 := h2
  have lt2 : ∀ x ∈ p2, x.block < W.heap.size := by obtain ⟨m, hm⟩ := k2; exact DataW.trod_lt m _ _ _ hm
  obtain ⟨l2, w2⟩ : ∃ l, OArg W a2 len2 cap2 l := by
    obtain ⟨fuel, hf⟩ := h2
    exact oarg_open hf
  obtain ⟨a3, rfl, rfl, rfl, w3⟩ := Go.ChangeMaps.open_string Tryd.underlying9 (hval 3 9 v3 rfl rfl) h3
  have s3 : a3.size ≤ 140737488351232 := by
    have := sized_string hsz (j := 3) (t := 9) rfl rfl
    rw [Array.length_toList] at this
    exact this
  clear hA0
  refine (walk a0 a1 a2 len2 cap2 l2 a3 W (gl_of hL) w2 s3).mono fun e W' ⟨he, bel⟩ => ?_
  subst he
  exact ⟨_, rfl, _, _, _, [], _, [], hW', trodAll_mk1 (shut_bool Tryd.underlying4 _), (trodAll_cons_mk (shut_int Tryd.underlying3 w0) (trodAll_cons_mk (shut_int Tryd.underlying3 w1) (trodAll_cons_mk (Below.trod laidOut (by kernel_rfl) (of_decide_eq_true (by kernel_rfl)) k2 bel lt2) (trodAll_cons_mk (Go.ChangeMaps.shut_string Tryd.underlying9 w3) trodAll_mk0)))), rfl, bel.frame _, fun h => by cases h⟩

theorem reads (os : Os) {H : Type} (enc : TypeId × Value → H) : ∃ places, DataW.whole enc Tryd.prog ((laidWorld os).forCall (fun _ _ => 0) ⟨#[], #[.int .i64 0, .int .i64 0, .slice none 0 0, .string ⟨#[]⟩], []⟩).memory Tryd.f5.params.toList Rows.propsBackSpec.vars false (#[.int .i64 0, .int .i64 0, .slice none 0 0, .string ⟨#[]⟩] : Array Value).toList 8 = some ([.lit (.int .i64 0), .lit (.int .i64 0), .nil, .lit (.string [])], [], places) :=
  ⟨[], by kernel_rfl⟩
set_option maxRecDepth 100000 in
theorem lifted (os : Os) (started : os.Started) (H : Type) (enc : TypeId × Value → H) (F : Stop.Interp) :
    ReturnsInHanded {} Tryd.checked os 5 .any ((OpenSpec.ofChange Rows.propsBackSpec).preRow enc Tryd.prog Tryd.f5 Rows.propsBackRow.domain false Rows.propsBackRow.laid) (((OpenSpec.ofChange Rows.propsBackSpec).at F).post enc Tryd.prog Tryd.f5 false true false false) := by
  obtain ⟨places, hx⟩ := reads os enc
  refine returnsInHanded_of_row (C := Tryd.checked) (s := OpenSpec.ofChange Rows.propsBackSpec) own started (by kernel_rfl) Tryd.func5
    (witness_row_at (enc := enc) (C := Tryd.checked) false (laidWorld os) #[.int .i64 0, .int .i64 0, .slice none 0 0, .string ⟨#[]⟩] (laid_os os) (by kernel_rfl) (by kernel_rfl) (by kernel_rfl)
      (OpenSpec.preRow_of_cond 8 hx (by kernel_rfl) (fun k hk => by cases hk) (by kernel_rfl) (laid_met os _))) ?_
  intro W base args ds gs before hval hW _ _ hsz hL _ _
  exact contract H enc W base args ds gs before hval hW hL hsz
theorem said : Rows.PropsBackSaid :=
  OpenClaim.holds_of_cond 5 Tryd.f5 rfl rfl rfl rfl rfl rfl rfl ⟨rfl, rfl, rfl, rfl, rfl⟩ rfl rfl rfl rfl rfl (by kernel_rfl) Tryd.func5 (by kernel_rfl)
    (of_decide_eq_true (by kernel_rfl)) (by unfold Func.isWrapper; first | (rw [if_pos (by decide +kernel)]; kernel_rfl) | (rw [if_neg (by decide +kernel)]; exact ⟨rfl, rfl⟩))
    (fun os started H enc _ F => by rw [OpenClaim.pre_eq_preRow]; exact lifted os started H enc F)
set_option maxRecDepth 100000 in
theorem plain (f : FuncId) (fn : Func) (hf : Tryd.pinned.checked.prog.funcNamed "pumice/pumicelaw14.PropsBack" = some f) (hfn : Tryd.pinned.checked.prog.funcs[f]? = some fn) :
    true = Tryd.pinned.checked.prog.looks [] ∧ ∀ (j : Nat) t, fn.params[j]? = some t → Tryd.pinned.checked.prog.wantsStandIn t = false := by
  obtain rfl : f = 5 := Option.some.inj ((show Tryd.prog.funcNamed "pumice/pumicelaw14.PropsBack" = some 5 by kernel_rfl).symm.trans hf) |>.symm
  obtain rfl : fn = Tryd.f5 := (Option.some.inj (Tryd.func5.symm.trans hfn)).symm
  refine ⟨by kernel_rfl, fun j t ht => ?_⟩
  rw [Tryd.params5] at ht
  have hm : t ∈ [3, 3, 22, 9] := by simpa using Array.mem_of_getElem? ht
  have hall : ∀ u ∈ [3, 3, 22, 9], Tryd.prog.wantsStandIn u = false := by
    intro u hu
    simp only [List.mem_cons, List.not_mem_nil, or_false] at hu
    rcases hu with rfl | rfl | rfl | rfl
    · exact (show Tryd.prog.wantsStandIn 3 = false by kernel_rfl)
    · exact (show Tryd.prog.wantsStandIn 3 = false by kernel_rfl)
    · exact (show Tryd.prog.wantsStandIn 22 = false by kernel_rfl)
    · exact (show Tryd.prog.wantsStandIn 9 = false by kernel_rfl)
  exact hall t hm
theorem card : Rows.PropsBackCardSaid :=
  Claim7.holds_tied_plain_at .later [] _ _ _ _ said (fun _ h => by cases h) (by kernel_rfl) (fun _ h => by cases h) propsBack_row_tie rfl ⟨rfl, rfl⟩ (by kernel_rfl) rfl plain (by kernel_rfl)
end Go.Proofs.YtjbdjicciakibaaDoor.propsBack

namespace Go.Proofs.YtjbdjicciakibaaDoor
theorem propsBack_holds : Rows.PropsBackCardSaid := propsBack.card
#print axioms propsBack_holds
end Go.Proofs.YtjbdjicciakibaaDoor
