/-
  A list of pages of the call's own, each of its own bytes.
  renew: the superblock and a record, at once.
-/
import Derived.Test.YtkfecngkdlajgaaGreatDoorQF
import Derived.Test.YtkfecngkdlajgaaGreatDoorQH
import Derived.Test.YtkfecngkdlajgaaGreatDoorKH
import Derived.Test.YtkfecngkdlajgaaGreatDoorGD
import Derived.Test.YtkfecngkdlajgaaGreatDoorXRC
import Derived.Test.YtkfecngkdlajgaaGreatDoorXRA
import Derived.Test.YtkfecngkdlajgaaGreatDoorXRD
import Derived.Test.YtkfecngkdlajgaaGreatDoorKM
import Derived.Test.YtkfecngkdlajgaaGreatDoorGB
import Derived.Maps.AppendAt
import Derived.Laws.OwnMore
import Derived.ArgAppend
namespace Go.Proofs.YtkfecngkdlajgaaGreatDoor
open Go.RowKit Go.Extern.Stop Go.Stop Go.Extern
set_option maxRecDepth 10000

/-- append of bytes onto bytes of the call's own, none or some, at an operation. -/
theorem wp_append_bytes {w : World} {o : Oper} {a : Act} {K : Act → World → Prop} {Q : Exit → Act → World → Prop} (s x : Operand)
    (ho : o.op = .call { callee := .builtin .append, args := #[s, x], argTypes := #[56, 56] })
    (base : Nat) (v : Value) (n : Nat) (xs : List Value) (hs : a.eval s = v) (hown : w.ownsRow base 5 1 v n xs)
    (ao : Option Addr) (m c : Nat) (M : List Nat) (hx : a.eval x = .slice ao m c) (hM : m = M.length) (hr : Hd.BRow w ao M) (hnil : ao = none → m = 0 ∧ c = 0)
    (h63 : n + m ≤ maxLen) (hbytes : (n + m) * 1 ≤ 140737488355328) (hbase : base ≤ w.heap.size)
    (h : ∀ v' w', w'.ownsRow base 5 1 v' (n + m) (xs ++ M.map u8v) → w.grownBy w' v.ownBlock → K (a.put o.dst v') w') : o.wp Tryz.prog a w K Q := by
  obtain ⟨i0, hi, hz0, hz1, hz2⟩ := info_parts info8
  cases ao with
  | none =>
    obtain ⟨rfl, rfl⟩ := hnil rfl
    have hM0 : M = [] := List.eq_nil_of_length_eq_zero hM.symm
    subst hM0
    have hrun := run_append_owned_none (P := Tryz.prog) (w := w) base 56 o.type 5 i0 1 Tryz.underlying56 hi v n xs hown
    unfold Oper.wp
    simp [execOp, ho, resolve, invoke, builtin, hs, hx, hrun, Result.andThen]
    exact h v w (by simpa using hown) ⟨rfl, rfl, rfl, Nat.le_refl _, fun _ _ _ => rfl⟩
  | some ad =>
    obtain ⟨v', w', hrun, h2, h3, _⟩ := run_append_own_at (P := Tryz.prog) w base 56 o.type 5 i0 (.int .u8 0) 1 1 Tryz.underlying56 hi hz0 hz1 hz2 rfl (by omega) v n xs hown ad m c (M.map u8v) (by simp [hM]) (Hd.cells_any hr) (Hd.u8v_one _) h63 hbytes hbase
    unfold Oper.wp execOp
    simp only [ho, resolve, invoke, builtin, Sem.run_bind, Sem.run_pure, Result.andThen_ok, List.map_toArray, List.map_cons, List.map_nil, hs, hx, hrun]
    exact h v' w' h2 h3
theorem step_append_bytes {w : World} {ops : Array Oper} {o : Oper} {a : Act} {K : Act → World → Prop} {Q : Exit → Act → World → Prop} {E : Prop} (hgd : o.guard = none) (s x : Operand)
    (ho : o.op = .call { callee := .builtin .append, args := #[s, x], argTypes := #[56, 56] })
    (base : Nat) (v : Value) (n : Nat) (xs : List Value) (hs : a.eval s = v) (hown : w.ownsRow base 5 1 v n xs)
    (ao : Option Addr) (m c : Nat) (M : List Nat) (hx : a.eval x = .slice ao m c) (hM : m = M.length) (hr : Hd.BRow w ao M) (hnil : ao = none → m = 0 ∧ c = 0)
    (h63 : n + m ≤ maxLen) (hbytes : (n + m) * 1 ≤ 140737488355328) (hbase : base ≤ w.heap.size)
    (h : ∀ v' w', w'.ownsRow base 5 1 v' (n + m) (xs ++ M.map u8v) → w.grownBy w' v.ownBlock → K (a.put o.dst v') w') :
    if Region.wanted o (yielded ops a.tmps) = true then Oper.wp Tryz.prog o a w K Q else E := by
  have hw : Region.wanted o (yielded ops a.tmps) = true := by simp [Region.wanted, hgd]
  rw [if_pos hw]
  exact wp_append_bytes s x ho base v n xs hs hown ao m c M hx hM hr hnil h63 hbytes hbase h
end Go.Proofs.YtkfecngkdlajgaaGreatDoor
namespace Go.Proofs.YtkfecngkdlajgaaGreatDoor
open Go.RowKit Go.Extern.Stop Go.Stop Go.Extern
set_option maxRecDepth 10000

theorem pdt_pieces {S : Nat → Prop} {w : World} {base gz g : Nat} {a : Option Addr} {cp : Nat} {d : List Nat} (ho : w.ownsRow base 56 1 (.slice a (pcs gz d.length).length cp) (pcs gz d.length).length ((pcs gz d.length).map (chV g))) (hr : Hd.BRow w (some ⟨g, 0, none⟩) d) (hlt : ∀ x ∈ d, x < 256) (hS : ¬ S g) (hS2 : ∀ b, base ≤ b → ¬ S b) :
    PDt S w a (cut gz d (many gz d.length)) := by
  rcases ho.2 with ⟨e, hn⟩ | ⟨b, cap, cur, e, hbg, hgg, hnc, hcm, hcs, htake⟩
  · refine .inl ?_
    rw [pcs_length] at hn
    rw [hn]; rfl
  · cases e
    refine .inr ⟨b, 0, rfl, hS2 b hbg, fun i p hp => ?_⟩
    have hi : i < many gz d.length := by
      have := (List.getElem?_eq_some_iff.1 hp).1
      rwa [cut_length] at this
    rw [cut_get hi] at hp
    cases hp
    have hl : ((d.drop (i * gz)).take gz).length = min gz (d.length - i * gz) := by rw [List.length_take, List.length_drop]
    refine ⟨some ⟨g, i * gz, none⟩, min gz (d.length - i * gz), ?_, ?_⟩
    · rw [Nat.zero_add, ho.cellAt i (by rw [pcs_length]; omega), hl]
      simp [pcs_get hi, chV]
    · refine ⟨fun x hx => hlt x (List.mem_of_mem_drop (List.mem_of_mem_take hx)), ?_⟩
      have := Hd.BRow.sub (i := i * gz) (j := gz) hr
      rw [Nat.zero_add] at this
      rcases this with h | ⟨b2, off2, h, hc⟩
      · exact .inl h
      · cases h
        exact .inr ⟨g, i * gz, rfl, hS, hc⟩
theorem xsupN_lt (x : List Int) (k : Nat) : ∀ y ∈ supN x k, y < 256 := by
  intro y hy
  unfold supN at hy
  rcases List.mem_append.1 hy with h | h
  · simp at h
    omega
  · obtain ⟨n, _, hn⟩ := List.mem_flatMap.1 h
    exact Hd.M.putL_lt _ _ y hn
theorem recL_lt (n : Nat) (T : List Nat) (hT : ∀ x ∈ T, x < 256) : ∀ y ∈ recL n T, y < 256 := by
  intro y hy
  unfold recL at hy
  rcases List.mem_cons.1 hy with rfl | hy
  · decide
  · rcases List.mem_append.1 hy with h | h
    · exact Hd.M.putL_lt _ _ y h
    · exact hT y h
theorem renew_change {base t b10 b4 g8 : Nat} {w w11 : World} {m : Mg} {c : CS} {P : List (List (List Nat))} (h0 : Ms base t w m c P) (h : Ms base t w11 m c P) (d : List Nat) (dl : Nat) (hdl : dl = d.length) (a11 : Option Addr) (p11 p8 : Nat) (hlt : ∀ x ∈ d, x < 256) (ho : w11.ownsRow b10 56 1 (.slice a11 (pcs c.gz dl).length p11) (pcs c.gz dl).length ((pcs c.gz dl).map (chV g8)))
    (h8 : w11.ownsRow b4 5 1 (.slice (some ⟨g8, 0, none⟩) dl p8) dl (d.map u8v)) (h4 : w.heap.size ≤ b4) (h10 : w.heap.size ≤ b10) (hleb : ((0 : Nat) : Int) + c.gr + 2 < c.gb) (hroom : 2 + many c.gz d.length ≤ c.gp) (ht : t < 2147483647) :
    Calls Tryz.prog 23 #[.pointer (some ⟨m.p, 0, none⟩), .int .i64 0, .slice a11 (pcs c.gz dl).length p11] w11 fun e w' => e = .returned (.int .i64 0) ∧ Done base (t + 1) w11 m c (fun l => if l = 0 then some ((cut c.gz d (many c.gz d.length)).map (fillP c.gz)) else cont m.bl P l) w' := by
  subst hdl
  have hf : ∀ k, w.heap.size ≤ k → ¬ MFoot m c k := fun k hk q => by
    rcases q with q | q | q
    · have := h0.ml.box.lt; omega
    · have := h0.ml.row.lt; omega
    · have := h0.ml.chip.foot_lt q; omega
  have hg := lown_row h8 (g := g8) rfl
  obtain ⟨ax, cx, e8, hr8, _, _⟩ := owns_row h8
  cases e8
  have hp := pdt_pieces (S := MFoot m c) ho hr8 hlt (hf g8 (Nat.le_trans h4 hg.1)) (fun b hb => hf b (Nat.le_trans h10 hb))
  have hl : (pcs c.gz d.length).length = (cut c.gz d (many c.gz d.length)).length := by rw [pcs_length, cut_length]
  rw [hl]
  exact change_go h 0 p11 a11 _ hp hleb (fun x hx => cut_le x hx) (by rw [cut_length]; exact hroom) ht
set_option maxHeartbeats 4000000 in
theorem renew_any {base t : Nat} {w : World} {m : Mg} {c : CS} {P : List (List (List Nat))} (h : Ms base t w m c P) (n : Nat) (hn : n < 18446744073709551616) (T : List Nat) (hT : ∀ x ∈ T, x < 256) (hTl : T.length ≤ 512) (ht : t < 2147483647) (hleb : ((0 : Nat) : Int) + c.gr + 2 < c.gb) (hroom : 2 + many c.gz (Hd.frameL (supN [c.gb, c.gp, c.gz, c.gr] 4) ++ Hd.frameL (recL n T)).length ≤ c.gp) :
    Calls Tryz.prog 31 #[.pointer (some ⟨m.p, 0, none⟩), .agg #[.int .u64 (n : Nat), .string (bstr T)]] w fun e w' => e = .returned .nilIface ∧ Done base (t + 1) w m c (fun l => if l = 0 then some ((cut c.gz (Hd.frameL (supN [c.gb, c.gp, c.gz, c.gr] 4) ++ Hd.frameL (recL n T)) (many c.gz (Hd.frameL (supN [c.gb, c.gp, c.gz, c.gr] 4) ++ Hd.frameL (recL n T)).length)).map (fillP c.gz)) else cont m.bl P l) w' := by
  have kS := super_any c.gb c.gp c.gz c.gr
  obtain ⟨W, hW⟩ : ∃ W, W = w.alloc (.cells #[.int .u64 (n : Nat), .string (bstr T)] 40) := ⟨_, rfl⟩
  have hbW : Below w.heap.size w W.drew := by rw [hW]; exact (below_new w _).drew
  have hrW : Row W w.heap.size [.int .u64 (n : Nat), .string (bstr T)] 40 := by rw [hW]; exact Row.new w [_, _] _
  have HM := (show Hid (∀ X, Below w.heap.size w X → Ms base t X m c P) from fun X hb => h.later hb)
  have HW := (show Hid (Below w.heap.size w W.drew ∧ Row W w.heap.size [.int .u64 (n : Nat), .string (bstr T)] 40 ∧ w.heap.size < W.heap.size) from ⟨hbW, hrW, hrW.lt⟩)
  have kP := fun X => packed_any n hn T hT (by omega) X
  have HT := (show Hid ((∀ x ∈ T, x < 256) ∧ T.length ≤ 512) from ⟨hT, hTl⟩)
  obtain ⟨WT, hWT⟩ : ∃ WT, WT = supN [(c.gb : Int), c.gp, c.gz, c.gr] 4 := ⟨_, rfl⟩
  have HWT := (show Hid (WT.length = 15 ∧ ∀ x ∈ WT, x < 256) from ⟨by rw [hWT]; exact supN_length _ 4 (by simp), by rw [hWT]; exact xsupN_lt _ _⟩)
  rw [← hWT] at kS hroom ⊢
  obtain ⟨R, hR⟩ : ∃ R, R = recL n T := ⟨_, rfl⟩
  have HR := (show Hid (R.length = 9 + T.length ∧ ∀ x ∈ R, x < 256) from ⟨by rw [hR]; exact recL_length n T, by rw [hR]; exact recL_lt n T hT⟩)
  rw [← hR] at kP hroom ⊢
  have HRM := (show Hid (2 + many c.gz (Hd.frameL WT ++ Hd.frameL R).length ≤ c.gp ∧ ((0 : Nat) : Int) + c.gr + 2 < c.gb ∧ t < 2147483647) from ⟨hroom, hleb, ht⟩)
  obtain ⟨St, hSt⟩ : ∃ S, S = bstr T := ⟨_, rfl⟩
  rw [← hSt] at hW HW hrW kP ⊢
  have HFl := (show Hid ((Hd.frameL WT).length = 21 ∧ (Hd.frameL R).length = 6 + R.length ∧ R.length ≤ 521 ∧ 9 ≤ R.length) from ⟨by rw [Hd.frameL_length, HWT.out.1], by rw [Hd.frameL_length]; omega, by rw [HR.out.1]; omega, by rw [HR.out.1]; omega⟩)
  have c0 := hrW.cell (i := 0) rfl
  have c1 := hrW.cell (i := 1) rfl
  clear h hbW hrW hWT hR hSt hT hTl hn hroom hleb ht
  go_enter Tryz.func31, Tryz.ntmps31
  have M1 : Hid True := trivial
  go_wp2_with fail
  rw [← hW]
  clear hW
  go_region_law (first
    | (refine step_calls rfl 9 (.tmp 6) _ rfl (.pointer (some ⟨m.p, 0, none⟩)) (by rfl) (by rfl) (mchip_any (HM.out W.drew HW.out.1).ml) ?_; rintro e w3 ⟨rfl, rfl⟩; refine ⟨_, rfl, ?_⟩)
    | (refine step_calls rfl 59 (.tmp 7) _ rfl (.pointer (some ⟨c.p, 0, none⟩)) (by rfl) (by rfl) (geometry_any (HM.out W.drew HW.out.1).ml.chip) ?_; rintro e w3 ⟨rfl, hb3⟩; refine ⟨_, rfl, ?_⟩; have h3 := HW.out.2.1.later (Below.after (Below.refl _ W).drew hb3); have x0 := h3.cell (i := 0) rfl; have x1 := h3.cell (i := 1) rfl; have HB3 := (show Hid (Below w.heap.size w w3 ∧ Row w3 w.heap.size [.int .u64 (n : Nat), .string St] 40) from ⟨Below.after HW.out.1 hb3, h3⟩); clear hb3 h3)
    | (refine step_calls rfl 21 (.tmp 8) _ rfl (.agg #[.int .i64 c.gb, .int .i64 c.gp, .int .i64 c.gz, .int .i64 c.gr]) (by rfl) (by rfl) (kS w3) ?_; rintro e w4 ⟨v4, rfl, ho4⟩; obtain ⟨a4, p4, rfl, hr4, _, _⟩ := ho4.row; refine ⟨_, rfl, ?_⟩; have h4 := HB3.out.2.later ho4.2; have y0 := h4.cell (i := 0) rfl; have y1 := h4.cell (i := 1) rfl; have kF := framed_any a4 p4 WT w4 (by have := HWT.out.1; omega) (by have := HWT.out.1; omega) HWT.out.2 hr4; have HB4 := (show Hid (Below w.heap.size w w4 ∧ Row w4 w.heap.size [.int .u64 (n : Nat), .string St] 40) from ⟨Below.after HB3.out.1 ho4.2, h4⟩); clear ho4 h4 hr4)
    | (refine step_calls rfl 63 (.tmp 9) _ rfl (.slice a4 WT.length p4) (by rfl) (by rfl) kF ?_; rintro e w5 ⟨v5, rfl, ho5⟩; obtain ⟨a5, p5, rfl, _, _, _⟩ := ho5.row; refine ⟨_, rfl, ?_⟩; have h5 := HB4.out.2.later ho5.2; have z0 := h5.cell (i := 0) rfl; have z1 := h5.cell (i := 1) rfl; have HB5 := (show Hid (Below w.heap.size w w5 ∧ Hd.Own w4 w5 (.slice a5 _ p5) (Hd.frameL WT)) from ⟨Below.after HB4.out.1 ho5.2, ho5⟩); clear ho5 h5)
    | (refine step_calls rfl 64 (.tmp 11) _ rfl (.agg #[.int .u64 (n : Nat), .string St]) (by rfl) (by rfl) (kP w5) ?_; rintro e w6 ⟨v6, rfl, ho6⟩; obtain ⟨a6, p6, rfl, hr6, _, _⟩ := ho6.row; refine ⟨_, rfl, ?_⟩; have kF6 := framed_any a6 p6 R w6 (by have := HR.out.1; omega) (by have := HR.out.1; have := HT.out.2; omega) HR.out.2 hr6; have HB6 := (show Hid (Below w5.heap.size w5 w6) from ho6.2); clear ho6 hr6)
    | (refine step_calls rfl 63 (.tmp 12) _ rfl (.slice a6 R.length p6) (by rfl) (by rfl) kF6 ?_; rintro e w7 ⟨v7, rfl, ho7⟩; refine ⟨_, rfl, ?_⟩; obtain ⟨a7, p7, rfl, hr7, _, _⟩ := ho7.row; have HB7 := (show Hid (Below w5.heap.size w5 w7 ∧ BRow w7 a7 (Hd.frameL R)) from ⟨Below.after HB6.out ho7.2, hr7⟩); clear ho7 hr7)
    | (refine step_append_bytes rfl (.tmp 10) (.tmp 13) rfl w4.heap.size (.slice a5 (Hd.frameL WT).length p5) (Hd.frameL WT).length ((Hd.frameL WT).map u8v) (by rfl) (owns_later HB5.out.2.1 HB7.out.1) a7 (Hd.frameL R).length p7 (Hd.frameL R) (by rfl) rfl HB7.out.2 (fun e => by exfalso; have := HFl.out; rcases HB7.out.2 with q | ⟨b, o, q, _⟩; (have t2 := this.2.1; rw [q, List.length_nil] at t2; omega); (rw [q] at e; cases e)) (by have := HFl.out; unfold maxLen; omega) (by have := HFl.out; omega) (by have := HB5.out.2.2.size; have := HB7.out.1.size; omega) ?_; intro v8 w8 hown8 hgrow8; obtain ⟨a8, p8, rfl⟩ := own_form hown8; have HB8 := (show Hid (Below w4.heap.size w4 w8 ∧ w8.ownsRow w4.heap.size 5 1 (.slice a8 ((Hd.frameL WT).length + (Hd.frameL R).length) p8) ((Hd.frameL WT).length + (Hd.frameL R).length) ((Hd.frameL WT).map u8v ++ (Hd.frameL R).map u8v)) from ⟨grown_below (Below.after HB5.out.2.2 HB7.out.1) (owns_later HB5.out.2.1 HB7.out.1) hgrow8, hown8⟩); clear hown8 hgrow8))
  all_goals
    have hn8 := HFl.out
    obtain ⟨g8, rfl⟩ : ∃ g, a8 = some ⟨g, 0, none⟩ := by
      rcases HB8.out.2.2 with ⟨e, q⟩ | ⟨g, cap, cur, e, _⟩
      · exfalso; omega
      · cases e; exact ⟨g, rfl⟩
    obtain ⟨dl, hdl⟩ : ∃ d, d = (Hd.frameL WT).length + (Hd.frameL R).length := ⟨_, rfl⟩
    have HDL := (show Hid (dl = (Hd.frameL WT).length + (Hd.frameL R).length) from hdl)
    rw [← hdl]
    clear hdl hn8
    have HG8 := (show Hid (Below w.heap.size w w8) from HB4.out.1.trans (HB8.out.1.mono HB4.out.1.size))
    have hgeo := (HM.out w8 HG8.out).rp.rb.geo
    have HZ := (show Hid (0 < c.gz ∧ c.gz ≤ 512 ∧ c.gp ≤ 64) from ⟨by omega, by omega, by omega⟩)
    clear hgeo
    have HP8 := (show Hid (dl ≤ p8) from by rcases HB8.out.2.2 with ⟨e, q⟩ | ⟨g, cap, cur, e, _, _, q, _⟩; (exfalso; have := HFl.out; omega); (cases e; rw [HDL.out]; exact q))
    have HBy := (show Hid (∀ x ∈ Hd.frameL WT ++ Hd.frameL R, x < 256) from fun x hx => by rcases List.mem_append.1 hx with q | q; exact Hd.frameL_lt HWT.out.2 x q; exact Hd.frameL_lt HR.out.2 x q)
    have H8 := (show Hid (w8.ownsRow w4.heap.size 5 1 (.slice (some ⟨g8, 0, none⟩) dl p8) dl ((Hd.frameL WT ++ Hd.frameL R).map u8v)) from by rw [HDL.out, List.map_append]; exact HB8.out.2)
    go_wp2_with (first
      | (go_at_call 67; refine (mpage_any (HM.out w8 HG8.out).ml).mono ?_; rintro e w9 ⟨rfl, hb9⟩; have HB9 := (show Hid (Below w8.heap.size w8 w9) from hb9); clear hb9)
      | (go_at_call 66; refine (chunk_any c.gz dl p8 g8 HZ.out.1 HZ.out.2.1 w9).mono ?_; rintro e w10 ⟨Bs, Bn, rfl, q1, q2, q3, q4, hb10⟩; have kC := collectB_any Bs Bn c.gz dl p8 g8 HZ.out.1 HZ.out.2.1 (by have := HDL.out; have := HFl.out; omega) HP8.out (by have h1 := HRM.out.1; have h2 : dl = (Hd.frameL WT ++ Hd.frameL R).length := (by rw [List.length_append]; exact HDL.out); rw [← h2] at h1; have := HZ.out; omega) w10 q1 q2; have HB10 := (show Hid (Below w8.heap.size w8 w10) from Below.after HB9.out hb10); clear hb10 q1 q2 q3 q4)
      | (go_at_call 65; refine kC.mono ?_; rintro e w11 ⟨a11, p11, rfl, ho11, hb11⟩; have HB11 := (show Hid (Below w8.heap.size w8 w11 ∧ w11.ownsRow w10.heap.size 56 1 (.slice a11 (pcs c.gz dl).length p11) (pcs c.gz dl).length ((pcs c.gz dl).map (chV g8))) from ⟨Below.after HB10.out hb11, ho11⟩); clear ho11 hb11)
      | (go_at_call 23; refine (renew_change (HM.out w (Below.refl _ _)) (HM.out w11 (Below.after HG8.out HB11.out.1)) (Hd.frameL WT ++ Hd.frameL R) dl (by rw [List.length_append]; exact HDL.out) a11 p11 p8 HBy.out HB11.out.2 (owns_later H8.out HB11.out.1) HB4.out.1.size (Nat.le_trans HG8.out.size HB10.out.size) HRM.out.2.1 HRM.out.1 HRM.out.2.2).mono ?_; rintro e w12 ⟨rfl, hd12⟩; have HD12 := (show Hid (Done base (t + 1) w11 m c _ w12) from hd12); clear hd12)
      | (go_at_call 56; refine (xfailed_any _ 0 w12).mono ?_; rintro e w13 ⟨v13, rfl, he13, hb13⟩; obtain rfl : v13 = .nilIface := (by rcases he13 with ⟨_, q⟩ | ⟨q, _⟩; exact q; exact absurd rfl q); have HB13 := (show Hid (Below w12.heap.size w12 w13) from hb13); clear he13 hb13))
    go_ret
    refine ⟨rfl, ?_⟩
    obtain ⟨m', c', P', z1, z2, z3, z4, z5, z6⟩ := HD12.out
    exact ⟨m', c', P', z1.later HB13.out, z2, z3, z4, z5, ((Kept.of_below (Below.after HG8.out HB11.out.1)).trans z6).later HB13.out⟩
end Go.Proofs.YtkfecngkdlajgaaGreatDoor
