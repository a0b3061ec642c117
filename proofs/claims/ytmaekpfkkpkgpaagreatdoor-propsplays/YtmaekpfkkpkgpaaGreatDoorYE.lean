/-
  Both books tell the same.
-/
import Derived.Test.YtmaekpfkkpkgpaaGreatDoorRV
import Derived.Test.YtmaekpfkkpkgpaaGreatDoorYA
namespace Go.Proofs.YtmaekpfkkpkgpaaGreatDoor
open Go.RowKit Go.Shelf
set_option maxRecDepth 10000

/-- What Block tells. -/
def blkX (l : List PB) (leb : Int) : PB := (blk l leb).getD PB.none
def blkE (l : List PB) (leb : Int) : Int := match blk l leb with
  | some _ => 0
  | none => 22
set_option maxHeartbeats 1000000 in
theorem block_no {w : World} {p q cap : Nat} {size : Int} {l : List PB} (h : BLies w p q cap size l) (leb : Int) (hn : leb < 0 ∨ (l.length : Int) ≤ leb) :
    Calls Tryz.prog 26 #[.pointer (some ⟨p, 0, none⟩), .int .i64 leb] w fun e w' => e = .returned (.tuple #[.agg #[.int .i64 0, .int .i64 0, .int .i64 0, .bool false], .int .i64 22]) ∧ Below w.heap.size w w' := by
  have hb := below_new w (.cells #[.int .i64 0, .int .i64 0, .int .i64 0, .bool false] 54)
  have kA := at_no (h.later hb) leb hn
  have HB := hidW hb
  clear h hn hb
  go_enter Tryz.func26, Tryz.ntmps26
  go_wp2_with (go_at_call 44; refine kA.mono ?_; rintro e w1 ⟨rfl, rfl⟩)
  refine bodyPost_ret (v := .tuple #[.agg #[.int .i64 0, .int .i64 0, .int .i64 0, .bool false], .int .i64 22]) ?_ rfl ⟨rfl, ?_⟩
  · simp [results, Tryz.f26, go_sem]
  · exact HB.out
theorem block_any {w : World} {p q cap : Nat} {size : Int} {l : List PB} (h : BLies w p q cap size l) (leb : Int) :
    Calls Tryz.prog 26 #[.pointer (some ⟨p, 0, none⟩), .int .i64 leb] w fun e w' => e = .returned (.tuple #[.agg #[.int .i64 (blkX l leb).use, .int .i64 (blkX l leb).used, .int .i64 (blkX l leb).live, .bool (blkX l leb).closed], .int .i64 (blkE l leb)]) ∧ Below w.heap.size w w' := by
  unfold blkX blkE
  cases hb : blk l leb with
  | none => exact block_no h leb (blk_none hb)
  | some x =>
    obtain ⟨i, rfl, hi, hx⟩ := blk_some hb
    exact block_go h i x hx
theorem dblock_any {w : World} {p q cap : Nat} {size : Int} {l : List PB} (h : DLies w p q cap size l) (leb : Int) :
    Calls Tryz.prog 27 #[.pointer (some ⟨p, 0, none⟩), .int .i64 leb] w fun e w' => e = .returned (.tuple #[.agg #[.int .i64 (blkX l leb).use, .int .i64 (blkX l leb).used, .int .i64 (blkX l leb).live, .bool (blkX l leb).closed], .int .i64 (blkE l leb)]) ∧ Below w.heap.size w w' := by
  unfold blkX blkE
  cases hb : blk l leb with
  | none => exact dblock_no h leb (blk_none hb)
  | some x =>
    obtain ⟨i, rfl, hi, hx⟩ := blk_some hb
    exact dblock_go h i x hx
theorem least_same (l : List PB) : leastF l = ((freesF l).headD 0, decide (0 < (freesF l).length)) := by
  unfold leastF
  cases freesF l with
  | nil => rfl
  | cons x r => simp
/-- A list of numbers that a call has answered. -/
def AnsI (w : World) (A : List Int) (e : Ending) (w' : World) : Prop := (∃ a cc, e = .returned (.slice a A.length cc) ∧ IRow w' a A) ∧ Below w.heap.size w w'
theorem ans_own {w w' : World} {A : List Int} {e : Ending} (h : ∃ v, e = .returned v ∧ OwnI w.heap.size w' v A ∧ Below w.heap.size w w') : AnsI w A e w' := by
  obtain ⟨v, rfl, ho, hb⟩ := h
  obtain ⟨a, cc, rfl, hr⟩ := ho.form
  exact ⟨⟨a, cc, rfl, hr⟩, hb⟩
theorem of_same {size : Int} {l : List PB} (hO : BkOk size l) (use : Int) : thoseF (ofB use) 0 l = if use < 1 ∨ 3 < use then [] else thoseF (useB use) 0 l := by
  split
  · rename_i h
    refine List.eq_nil_iff_forall_not_mem.2 (fun x hx => ?_)
    obtain ⟨i, y, hy, rfl, hv⟩ := (thoseF_mem _ l 0 x).1 hx
    have hok := hO.ok y (List.mem_of_getElem? hy)
    have := hok.use0
    have := hok.use3
    simp [ofB] at hv
    omega
  · rename_i h
    have : ofB use = useB use := by
      funext x
      unfold ofB useB
      rw [decide_eq_decide]
      omega
    rw [this]
/-- The victims, as both tell them. -/
def vicF (l : List PB) (use : Int) : List Int := if use < 1 ∨ 3 < use then [] else outV l (thoseF (useB use) 0 l)
theorem vict_ans {w : World} {p q cap : Nat} {size : Int} {l : List PB} (h : BLies w p q cap size l) (hO : BkOk size l) (use : Int) : Calls Tryz.prog 20 #[.pointer (some ⟨p, 0, none⟩), .int .i64 use] w (AnsI w (vicF l use)) := by
  refine (victims_any h hO use).mono ?_
  rintro e w' ⟨v, Z, rfl, hp, hs, ho, hb⟩
  have e1 : Z = vicF l use := by
    unfold vicF
    split
    · rename_i hu
      rw [vict_none hO use hu] at hp
      exact hp.eq_nil
    · rename_i hu
      exact (vict_same hO use (by omega) Z hp hs).symm
  rw [← e1]
  refine ⟨?_, hb⟩
  rcases ho with ⟨rfl, rfl⟩ | ⟨g, c, rfl, h1, _, _⟩
  · exact ⟨none, 0, rfl, .inl rfl⟩
  · exact ⟨_, c, rfl, .inr ⟨g, 0, rfl, fun i x hx => by rw [Nat.zero_add]; exact h1.cell (by rw [List.getElem?_map, hx]; rfl)⟩⟩
theorem dvict_ans {w : World} {p q cap : Nat} {size : Int} {l : List PB} (h : DLies w p q cap size l) (hO : BkOk size l) (use : Int) : Calls Tryz.prog 35 #[.pointer (some ⟨p, 0, none⟩), .int .i64 use] w (AnsI w (vicF l use)) := by
  unfold vicF
  by_cases hu : use < 1 ∨ 3 < use
  · rw [if_pos hu]
    refine (dvict_bad use hu _ w).mono ?_
    rintro e w' ⟨rfl, rfl⟩
    exact ⟨⟨none, 0, rfl, .inl rfl⟩, Below.refl _ _⟩
  · rw [if_neg hu]
    exact (dvict_go h hO use (by omega) (by omega)).mono fun e w' h => ans_own h
/-- Both books, as they lie. -/
structure Bo (p q cap P Q C : Nat) (size : Int) (l : List PB) (w0 W : World) : Prop where
  b : BLies W p q cap size l
  d : DLies W P Q C size l
  g : Gl W
  bel : Below w0.heap.size w0 W
theorem Bo.later {p q cap P Q C : Nat} {size : Int} {l : List PB} {w0 W W' : World} (h : Bo p q cap P Q C size l w0 W) (hb : Below W.heap.size W W') : Bo p q cap P Q C size l w0 W' := ⟨h.b.later hb, h.d.later hb, h.g.later hb, Below.after h.bel hb⟩
theorem str_same (s : ByteArray) : (s.toList == s.toList) = true := by simp
set_option maxHeartbeats 16000000 in
theorem looks_any {w : World} {p q cap P Q C : Nat} {size : Int} {l : List PB} (h : Bo p q cap P Q C size l w w) (hO : BkOk size l) (leb use : Int) :
    Calls Tryz.prog 9 #[.pointer (some ⟨p, 0, none⟩), .pointer (some ⟨P, 0, none⟩), .int .i64 leb, .int .i64 use] w fun e w' => e = .returned (.bool true) ∧ Below w.heap.size w w' := by
  have H0 := hidW h
  have kB := hidW (fun W (h : BLies W p q cap size l) => block_any h leb)
  have kD := hidW (fun W (h : DLies W P Q C size l) => dblock_any h leb)
  have kL := hidW (fun W (h : BLies W p q cap size l) => least_any h hO.n2)
  have kM := hidW (fun W (h : DLies W P Q C size l) => dleast_any h hO.n2)
  rw [least_same] at kM
  have kT := hidW (fun W (h : BLies W p q cap size l) => totals_any h hO)
  have kU := hidW (fun W (h : DLies W P Q C size l) => dtotals_any h hO)
  have kO := hidW (fun W (h : DLies W P Q C size l) => (dof_any h hO.n2 use).mono fun e w' h => ans_own h)
  have kO2 := hidW (fun W (h : BLies W p q cap size l) => (of_any h hO.n2 use).mono fun e w' h => ans_own h)
  rw [of_same hO use] at kO2
  have kF := hidW (fun W (h : BLies W p q cap size l) => (frees_any h hO.n2).mono fun e w' h => ans_own h)
  have kG := hidW (fun W (h : DLies W P Q C size l) => (dfrees_any h hO.n2).mono fun e w' h => ans_own h)
  have kV := hidW (fun W (h : BLies W p q cap size l) => vict_ans h hO use)
  have kW := hidW (fun W (h : DLies W P Q C size l) => dvict_ans h hO use)
  have kX := hidW (fun W (h : Bo p q cap P Q C size l w W) => text_any (w := W) ⟨h.b, h.g.pw⟩ hO.ok (by have := hO.s1; omega) hO.s2 hO.n2)
  have kY := hidW (fun W (h : DLies W P Q C size l) => dtext_any h hO)
  have kI := hidW (fun (A : List Int) (hA : A.length ≤ 256) (a : Option Addr) (c : Nat) (b : Option Addr) (c2 : Nat) W (ha : IRow W a A) (hb : IRow W b A) => show Calls Tryz.prog 19 #[.slice a A.length c, .slice b A.length c2] W fun e w' => e = .returned (.bool true) ∧ Below W.heap.size W w' from (ints_any a c A b c2 A W ha hb hA).mono (by rintro e w' ⟨rfl, hb⟩; exact ⟨by simp, hb⟩))
  have hFl : (freesF l).length ≤ 256 := Nat.le_trans (thoseF_len _ _ _) hO.n2
  have hUl : (thoseF (useB use) 0 l).length ≤ 256 := Nat.le_trans (thoseF_len _ _ _) hO.n2
  have hVl : (vicF l use).length ≤ 256 := by
    unfold vicF
    split
    · simp
    · have := outV_len l _ (thoseF (useB use) 0 l) rfl
      omega
  obtain ⟨⟨xu, xd, xl, xc⟩, hxx⟩ : ∃ x, x = blkX l leb := ⟨_, rfl⟩
  obtain ⟨er, her⟩ : ∃ er, er = blkE l leb := ⟨_, rfl⟩
  rw [← hxx, ← her] at kB kD
  dsimp only at kB kD kM
  obtain ⟨n0, hn0⟩ : ∃ n0, n0 = (freesF l).headD 0 := ⟨_, rfl⟩
  obtain ⟨b0, hb0⟩ : ∃ b0, b0 = decide (0 < (freesF l).length) := ⟨_, rfl⟩
  rw [← hn0, ← hb0] at kL kM
  obtain ⟨F, hF⟩ : ∃ F, F = freesF l := ⟨_, rfl⟩
  obtain ⟨U, hU⟩ : ∃ U, U = thoseF (useB use) 0 l := ⟨_, rfl⟩
  obtain ⟨V, hV⟩ : ∃ V, V = vicF l use := ⟨_, rfl⟩
  obtain ⟨TX, hTX⟩ : ∃ TX, TX = bs (textF size l) := ⟨_, rfl⟩
  obtain ⟨t1, ht1⟩ : ∃ t1, t1 = sumU l := ⟨_, rfl⟩
  obtain ⟨t2, ht2⟩ : ∃ t2, t2 = sumL l := ⟨_, rfl⟩
  rw [← hF] at kF kG kT kU hFl
  rw [← ht1, ← ht2] at kT kU
  rw [← hU] at kO kO2 hUl
  rw [← hV] at kV kW hVl
  rw [← hTX] at kX kY
  obtain ⟨fl, hfl⟩ : ∃ fl, fl = F.length := ⟨_, rfl⟩
  rw [← hfl] at kT kU
  have hstr := str_same TX
  clear h hxx her hn0 hb0 hF hU hV hTX ht1 ht2 hO hfl
  have HFl := hidW hFl
  have HUl := hidW hUl
  have HVl := hidW hVl
  clear hFl hUl hVl
  by_cases hu : use < 1 ∨ 3 < use
  · rw [if_pos hu] at kO2
    have kJ := hidW (fun (a : Option Addr) (c : Nat) (b : Option Addr) (c2 : Nat) W (ha : IRow W a []) (hb : IRow W b []) => show Calls Tryz.prog 19 #[.slice a 0 c, .slice b 0 c2] W fun e w' => e = .returned (.bool true) ∧ Below W.heap.size W w' from kI.out [] (by simp) a c b c2 W ha hb)
    by_cases hu1 : use < 1
    · clear hu
      go_enter Tryz.func9, Tryz.ntmps9
      go_wp2_with (first
      | (go_at_call 26; refine (kB.out _ H0.out.b).mono ?_; rintro e u1 ⟨rfl, hb1⟩; have H1 := hidW (H0.out.later (Below.after hb1 (below_new u1 (.cells #[.int .i64 xu, .int .i64 xd, .int .i64 xl, .bool xc] 54)))); have HR1 := hidW (Row.new u1 [.int .i64 xu, .int .i64 xd, .int .i64 xl, .bool xc] 54); clear hb1 H0)
      | (go_at_call 27; refine (kD.out _ H1.out.d).mono ?_; rintro e u2 ⟨rfl, hb2⟩; have H2 := hidW (H1.out.later (Below.after hb2 (below_new u2 (.cells #[.int .i64 xu, .int .i64 xd, .int .i64 xl, .bool xc] 57)))); have r1 := (HR1.out.later hb2).alloc (.cells #[.int .i64 xu, .int .i64 xd, .int .i64 xl, .bool xc] 57); have c0 := r1.cell (i := 0) rfl; have c1 := r1.cell (i := 1) rfl; have c2 := r1.cell (i := 2) rfl; have c3 := r1.cell (i := 3) rfl; have r2 := Row.new u2 [.int .i64 xu, .int .i64 xd, .int .i64 xl, .bool xc] 57; have d0 := r2.cell (i := 0) rfl; have d1 := r2.cell (i := 1) rfl; have d2 := r2.cell (i := 2) rfl; have d3 := r2.cell (i := 3) rfl; clear hb2 r1 r2 HR1 H1)
      | (go_at_call 28; refine (kL.out _ H2.out.b).mono ?_; rintro e u3 ⟨rfl, hb3⟩; have H3 := hidW (H2.out.later hb3); clear hb3 H2 c0 c1 c2 c3 d0 d1 d2 d3)
      | (go_at_call 29; refine (kM.out _ H3.out.d).mono ?_; rintro e u4 ⟨rfl, hb4⟩; have H4 := hidW (H3.out.later hb4); clear hb4 H3)
      | (go_at_call 17; refine (kT.out _ H4.out.b).mono ?_; rintro e u5 ⟨rfl, hb5⟩; have H5 := hidW (H4.out.later hb5); clear hb5 H4)
      | (go_at_call 30; refine (kU.out _ H5.out.d).mono ?_; rintro e u6 ⟨rfl, rfl⟩)
      | (go_at_call 31; refine (kO.out _ H5.out.d).mono ?_; rintro e u7 ⟨⟨a7, cc7, rfl, hr7⟩, hb7⟩; have H7 := hidW (And.intro (H5.out.later hb7) hr7); clear hb7 hr7 H5)
      | (go_at_call 32; refine (kF.out _ H7.out.1.b).mono ?_; rintro e u8 ⟨⟨a8, cc8, rfl, hr8⟩, hb8⟩; have H8 := hidW (And.intro (H7.out.1.later hb8) (And.intro (H7.out.2.later hb8) hr8)); clear hb8 hr8 H7)
      | (go_at_call 33; refine (kG.out _ H8.out.1.d).mono ?_; rintro e u9 ⟨⟨a9, cc9, rfl, hr9⟩, hb9⟩; have H9 := hidW (And.intro (H8.out.1.later hb9) (And.intro (H8.out.2.1.later hb9) (And.intro (H8.out.2.2.later hb9) hr9))); clear hb9 hr9 H8)
      | (go_at_call 19; refine (kI.out F HFl.out _ _ _ _ _ H9.out.2.2.1 H9.out.2.2.2).mono ?_; rintro e u10 ⟨rfl, hb10⟩; have H10 := hidW (And.intro (H9.out.1.later hb10) (H9.out.2.1.later hb10)); clear hb10 H9)
      | (go_at_call 34; refine (kO2.out _ H10.out.1.b).mono ?_; rintro e u11 ⟨⟨a11, cc11, rfl, hr11⟩, hb11⟩; have H11 := hidW (And.intro (H10.out.1.later hb11) (And.intro (H10.out.2.later hb11) hr11)); clear hb11 hr11 H10)
      | (go_at_call 19; refine (kJ.out _ _ _ _ _ H11.out.2.2 (.inl rfl)).mono ?_; rintro e u12 ⟨rfl, hb12⟩; have H12 := hidW (H11.out.1.later hb12); clear hb12 H11)
      | (go_at_call 20; refine (kV.out _ H12.out.b).mono ?_; rintro e u13 ⟨⟨a13, cc13, rfl, hr13⟩, hb13⟩; have H13 := hidW (And.intro (H12.out.later hb13) hr13); clear hb13 hr13 H12)
      | (go_at_call 35; refine (kW.out _ H13.out.1.d).mono ?_; rintro e u14 ⟨⟨a14, cc14, rfl, hr14⟩, hb14⟩; have H14 := hidW (And.intro (H13.out.1.later hb14) (And.intro (H13.out.2.later hb14) hr14)); clear hb14 hr14 H13)
      | (go_at_call 19; refine (kI.out V HVl.out _ _ _ _ _ H14.out.2.1 H14.out.2.2).mono ?_; rintro e u15 ⟨rfl, hb15⟩; have H15 := hidW (H14.out.1.later hb15); clear hb15 H14)
      | (go_at_call 12; refine (kX.out _ H15.out).mono ?_; rintro e u16 ⟨rfl, hb16⟩; have H16 := hidW (H15.out.later hb16); clear hb16 H15)
      | (go_at_call 36; refine (kY.out _ H16.out.d).mono ?_; rintro e u17 ⟨rfl, hb17⟩; have H17 := hidW (H16.out.later hb17); clear hb17 H16))
      go_ret
      exact ⟨rfl, H17.out.bel⟩
    · have hu3 : 3 < use := by omega
      clear hu
      go_enter Tryz.func9, Tryz.ntmps9
      go_wp2_with (first
      | (go_at_call 26; refine (kB.out _ H0.out.b).mono ?_; rintro e u1 ⟨rfl, hb1⟩; have H1 := hidW (H0.out.later (Below.after hb1 (below_new u1 (.cells #[.int .i64 xu, .int .i64 xd, .int .i64 xl, .bool xc] 54)))); have HR1 := hidW (Row.new u1 [.int .i64 xu, .int .i64 xd, .int .i64 xl, .bool xc] 54); clear hb1 H0)
      | (go_at_call 27; refine (kD.out _ H1.out.d).mono ?_; rintro e u2 ⟨rfl, hb2⟩; have H2 := hidW (H1.out.later (Below.after hb2 (below_new u2 (.cells #[.int .i64 xu, .int .i64 xd, .int .i64 xl, .bool xc] 57)))); have r1 := (HR1.out.later hb2).alloc (.cells #[.int .i64 xu, .int .i64 xd, .int .i64 xl, .bool xc] 57); have c0 := r1.cell (i := 0) rfl; have c1 := r1.cell (i := 1) rfl; have c2 := r1.cell (i := 2) rfl; have c3 := r1.cell (i := 3) rfl; have r2 := Row.new u2 [.int .i64 xu, .int .i64 xd, .int .i64 xl, .bool xc] 57; have d0 := r2.cell (i := 0) rfl; have d1 := r2.cell (i := 1) rfl; have d2 := r2.cell (i := 2) rfl; have d3 := r2.cell (i := 3) rfl; clear hb2 r1 r2 HR1 H1)
      | (go_at_call 28; refine (kL.out _ H2.out.b).mono ?_; rintro e u3 ⟨rfl, hb3⟩; have H3 := hidW (H2.out.later hb3); clear hb3 H2 c0 c1 c2 c3 d0 d1 d2 d3)
      | (go_at_call 29; refine (kM.out _ H3.out.d).mono ?_; rintro e u4 ⟨rfl, hb4⟩; have H4 := hidW (H3.out.later hb4); clear hb4 H3)
      | (go_at_call 17; refine (kT.out _ H4.out.b).mono ?_; rintro e u5 ⟨rfl, hb5⟩; have H5 := hidW (H4.out.later hb5); clear hb5 H4)
      | (go_at_call 30; refine (kU.out _ H5.out.d).mono ?_; rintro e u6 ⟨rfl, rfl⟩)
      | (go_at_call 31; refine (kO.out _ H5.out.d).mono ?_; rintro e u7 ⟨⟨a7, cc7, rfl, hr7⟩, hb7⟩; have H7 := hidW (And.intro (H5.out.later hb7) hr7); clear hb7 hr7 H5)
      | (go_at_call 32; refine (kF.out _ H7.out.1.b).mono ?_; rintro e u8 ⟨⟨a8, cc8, rfl, hr8⟩, hb8⟩; have H8 := hidW (And.intro (H7.out.1.later hb8) (And.intro (H7.out.2.later hb8) hr8)); clear hb8 hr8 H7)
      | (go_at_call 33; refine (kG.out _ H8.out.1.d).mono ?_; rintro e u9 ⟨⟨a9, cc9, rfl, hr9⟩, hb9⟩; have H9 := hidW (And.intro (H8.out.1.later hb9) (And.intro (H8.out.2.1.later hb9) (And.intro (H8.out.2.2.later hb9) hr9))); clear hb9 hr9 H8)
      | (go_at_call 19; refine (kI.out F HFl.out _ _ _ _ _ H9.out.2.2.1 H9.out.2.2.2).mono ?_; rintro e u10 ⟨rfl, hb10⟩; have H10 := hidW (And.intro (H9.out.1.later hb10) (H9.out.2.1.later hb10)); clear hb10 H9)
      | (go_at_call 34; refine (kO2.out _ H10.out.1.b).mono ?_; rintro e u11 ⟨⟨a11, cc11, rfl, hr11⟩, hb11⟩; have H11 := hidW (And.intro (H10.out.1.later hb11) (And.intro (H10.out.2.later hb11) hr11)); clear hb11 hr11 H10)
      | (go_at_call 19; refine (kJ.out _ _ _ _ _ H11.out.2.2 (.inl rfl)).mono ?_; rintro e u12 ⟨rfl, hb12⟩; have H12 := hidW (H11.out.1.later hb12); clear hb12 H11)
      | (go_at_call 20; refine (kV.out _ H12.out.b).mono ?_; rintro e u13 ⟨⟨a13, cc13, rfl, hr13⟩, hb13⟩; have H13 := hidW (And.intro (H12.out.later hb13) hr13); clear hb13 hr13 H12)
      | (go_at_call 35; refine (kW.out _ H13.out.1.d).mono ?_; rintro e u14 ⟨⟨a14, cc14, rfl, hr14⟩, hb14⟩; have H14 := hidW (And.intro (H13.out.1.later hb14) (And.intro (H13.out.2.later hb14) hr14)); clear hb14 hr14 H13)
      | (go_at_call 19; refine (kI.out V HVl.out _ _ _ _ _ H14.out.2.1 H14.out.2.2).mono ?_; rintro e u15 ⟨rfl, hb15⟩; have H15 := hidW (H14.out.1.later hb15); clear hb15 H14)
      | (go_at_call 12; refine (kX.out _ H15.out).mono ?_; rintro e u16 ⟨rfl, hb16⟩; have H16 := hidW (H15.out.later hb16); clear hb16 H15)
      | (go_at_call 36; refine (kY.out _ H16.out.d).mono ?_; rintro e u17 ⟨rfl, hb17⟩; have H17 := hidW (H16.out.later hb17); clear hb17 H16))
      go_ret
      exact ⟨rfl, H17.out.bel⟩
  · rw [if_neg hu] at kO2
    have hu1 : ¬ use < 1 := by omega
    have hu3 : ¬ 3 < use := by omega
    clear hu
    go_enter Tryz.func9, Tryz.ntmps9
    go_wp2_with (first
      | (go_at_call 26; refine (kB.out _ H0.out.b).mono ?_; rintro e u1 ⟨rfl, hb1⟩; have H1 := hidW (H0.out.later (Below.after hb1 (below_new u1 (.cells #[.int .i64 xu, .int .i64 xd, .int .i64 xl, .bool xc] 54)))); have HR1 := hidW (Row.new u1 [.int .i64 xu, .int .i64 xd, .int .i64 xl, .bool xc] 54); clear hb1 H0)
      | (go_at_call 27; refine (kD.out _ H1.out.d).mono ?_; rintro e u2 ⟨rfl, hb2⟩; have H2 := hidW (H1.out.later (Below.after hb2 (below_new u2 (.cells #[.int .i64 xu, .int .i64 xd, .int .i64 xl, .bool xc] 57)))); have r1 := (HR1.out.later hb2).alloc (.cells #[.int .i64 xu, .int .i64 xd, .int .i64 xl, .bool xc] 57); have c0 := r1.cell (i := 0) rfl; have c1 := r1.cell (i := 1) rfl; have c2 := r1.cell (i := 2) rfl; have c3 := r1.cell (i := 3) rfl; have r2 := Row.new u2 [.int .i64 xu, .int .i64 xd, .int .i64 xl, .bool xc] 57; have d0 := r2.cell (i := 0) rfl; have d1 := r2.cell (i := 1) rfl; have d2 := r2.cell (i := 2) rfl; have d3 := r2.cell (i := 3) rfl; clear hb2 r1 r2 HR1 H1)
      | (go_at_call 28; refine (kL.out _ H2.out.b).mono ?_; rintro e u3 ⟨rfl, hb3⟩; have H3 := hidW (H2.out.later hb3); clear hb3 H2 c0 c1 c2 c3 d0 d1 d2 d3)
      | (go_at_call 29; refine (kM.out _ H3.out.d).mono ?_; rintro e u4 ⟨rfl, hb4⟩; have H4 := hidW (H3.out.later hb4); clear hb4 H3)
      | (go_at_call 17; refine (kT.out _ H4.out.b).mono ?_; rintro e u5 ⟨rfl, hb5⟩; have H5 := hidW (H4.out.later hb5); clear hb5 H4)
      | (go_at_call 30; refine (kU.out _ H5.out.d).mono ?_; rintro e u6 ⟨rfl, rfl⟩)
      | (go_at_call 31; refine (kO.out _ H5.out.d).mono ?_; rintro e u7 ⟨⟨a7, cc7, rfl, hr7⟩, hb7⟩; have H7 := hidW (And.intro (H5.out.later hb7) hr7); clear hb7 hr7 H5)
      | (go_at_call 32; refine (kF.out _ H7.out.1.b).mono ?_; rintro e u8 ⟨⟨a8, cc8, rfl, hr8⟩, hb8⟩; have H8 := hidW (And.intro (H7.out.1.later hb8) (And.intro (H7.out.2.later hb8) hr8)); clear hb8 hr8 H7)
      | (go_at_call 33; refine (kG.out _ H8.out.1.d).mono ?_; rintro e u9 ⟨⟨a9, cc9, rfl, hr9⟩, hb9⟩; have H9 := hidW (And.intro (H8.out.1.later hb9) (And.intro (H8.out.2.1.later hb9) (And.intro (H8.out.2.2.later hb9) hr9))); clear hb9 hr9 H8)
      | (go_at_call 19; refine (kI.out F HFl.out _ _ _ _ _ H9.out.2.2.1 H9.out.2.2.2).mono ?_; rintro e u10 ⟨rfl, hb10⟩; have H10 := hidW (And.intro (H9.out.1.later hb10) (H9.out.2.1.later hb10)); clear hb10 H9)
      | (go_at_call 34; refine (kO2.out _ H10.out.1.b).mono ?_; rintro e u11 ⟨⟨a11, cc11, rfl, hr11⟩, hb11⟩; have H11 := hidW (And.intro (H10.out.1.later hb11) (And.intro (H10.out.2.later hb11) hr11)); clear hb11 hr11 H10)
      | (go_at_call 19; refine (kI.out U HUl.out _ _ _ _ _ H11.out.2.2 H11.out.2.1).mono ?_; rintro e u12 ⟨rfl, hb12⟩; have H12 := hidW (H11.out.1.later hb12); clear hb12 H11)
      | (go_at_call 20; refine (kV.out _ H12.out.b).mono ?_; rintro e u13 ⟨⟨a13, cc13, rfl, hr13⟩, hb13⟩; have H13 := hidW (And.intro (H12.out.later hb13) hr13); clear hb13 hr13 H12)
      | (go_at_call 35; refine (kW.out _ H13.out.1.d).mono ?_; rintro e u14 ⟨⟨a14, cc14, rfl, hr14⟩, hb14⟩; have H14 := hidW (And.intro (H13.out.1.later hb14) (And.intro (H13.out.2.later hb14) hr14)); clear hb14 hr14 H13)
      | (go_at_call 19; refine (kI.out V HVl.out _ _ _ _ _ H14.out.2.1 H14.out.2.2).mono ?_; rintro e u15 ⟨rfl, hb15⟩; have H15 := hidW (H14.out.1.later hb15); clear hb15 H14)
      | (go_at_call 12; refine (kX.out _ H15.out).mono ?_; rintro e u16 ⟨rfl, hb16⟩; have H16 := hidW (H15.out.later hb16); clear hb16 H15)
      | (go_at_call 36; refine (kY.out _ H16.out.d).mono ?_; rintro e u17 ⟨rfl, hb17⟩; have H17 := hidW (H16.out.later hb17); clear hb17 H16))
    go_ret
    exact ⟨rfl, H17.out.bel⟩
end Go.Proofs.YtmaekpfkkpkgpaaGreatDoor
