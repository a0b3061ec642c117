/-
  Create, Open, Record of a master's home.
  save of a master's home.
  Save of a master.
-/
import Derived.Test.YtkfecngkdlajgaaGreatDoorXRH
namespace Go.Proofs.YtkfecngkdlajgaaGreatDoor
open Go.RowKit Go.Extern.Stop Go.Stop Go.Extern
set_option maxRecDepth 10000

set_option maxHeartbeats 2000000 in
theorem create_yes {base t : Nat} {w : World} {m : Mg} {c : CS} {P : List (List (List Nat))} {WT : List Nat} (h : Ms base t w m c P) (hleb : ((0 : Nat) : Int) + c.gr + 2 < c.gb) (hwt : WT = supN [(c.gb : Int), c.gp, c.gz, c.gr] 4) (ht : t < 1800000000) (n : Nat) (T : List Nat) (hok : okR n T) :
    Calls Tryz.prog 12 #[.pointer (some ⟨m.p, 0, none⟩), .agg #[.int .u64 (n : Nat), .string (bstr T)]] w fun r w' => ∃ xp, r = .returned (.tuple #[.pointer (some ⟨xp, 0, none⟩), .int .i64 0]) ∧ Svd base t w m c WT (anD c.gz WT n T) n T 1 w' ∧ XAt w' xp m.p n (bstr T) 1 ∧ w.heap.size ≤ xp := by
  have HM := (show Hid (∀ X, Below w.heap.size w X → Ms base t X m c P) from fun X hb => h.later hb)
  have HQ := (show Hid (((0 : Nat) : Int) + c.gr + 2 < c.gb ∧ WT = supN [(c.gb : Int), c.gp, c.gz, c.gr] 4 ∧ t < 1800000000 ∧ okR n T ∧ spentB c = false) from ⟨hleb, hwt, ht, hok, h.spent⟩)
  obtain ⟨W, hW⟩ : ∃ W, W = w.alloc (.cells #[.int .u64 (n : Nat), .string (bstr T)] 40) := ⟨_, rfl⟩
  have hbW : Below w.heap.size w W := by rw [hW]; exact below_new _ _
  have hrW : Row W w.heap.size [.int .u64 (n : Nat), .string (bstr T)] 40 := by rw [hW]; exact Row.new w [_, _] _
  have kR := refused_yes (HM.out W hbW).ml n (bstr T) (by rw [bstr_size]; exact hok.2.2) HQ.out.2.2.2.2
  have kN := fun X (hb : Below w.heap.size w X) => renew_home (HM.out X hb) hleb hwt ht hok
  obtain ⟨S, hS⟩ : ∃ S, S = bstr T := ⟨_, rfl⟩
  have HW := (show Hid (Below w.heap.size w W ∧ Row W w.heap.size [.int .u64 (n : Nat), .string S] 40) from ⟨hbW, by rw [hS]; exact hrW⟩)
  have c0 := HW.out.2.cell (i := 0) rfl
  have c1 := HW.out.2.cell (i := 1) rfl
  rw [← hS] at hW kR kN ⊢
  have HN := (show Hid (∀ X, Below w.heap.size w X → _) from kN)
  clear h hleb hwt ht hok hbW hrW hS kN
  go_enter Tryz.func12, Tryz.ntmps12
  go_wp2_with fail
  rw [← hW]
  clear hW
  go_wp2_with (first
    | (go_at_call 30; refine kR.mono ?_; rintro e w2 ⟨rfl, hb2⟩; have HB2 := (show Hid (Below w.heap.size w w2) from Below.after HW.out.1 hb2); have hr2 := HW.out.2.later hb2; have d0 := hr2.cell (i := 0) rfl; have d1 := hr2.cell (i := 1) rfl; have HR2 := (show Hid (Row w2 w.heap.size [.int .u64 (n : Nat), .string S] 40) from hr2); clear hb2 hr2)
    | (go_at_call 31; refine (HN.out w2 HB2.out).mono ?_; rintro e w3 ⟨rfl, hs3⟩; have hk3 : Kept (MFoot m c) w2 w3 := (by obtain ⟨_, _, _, _, _, _, _, _, _, q⟩ := hs3; exact q); have hr3 := HR2.out.kept hk3 (fun q => (HM.out w2 HB2.out).ml.off' HR2.out (by unfold NoMg; decide) q); have e0 := hr3.cell (i := 0) rfl; have e1 := hr3.cell (i := 1) rfl; have HS3 := (show Hid (Svd base t w m c WT (anD c.gz WT n T) n T 1 w3 ∧ w.heap.size ≤ w3.heap.size) from ⟨hs3.from (Kept.of_below HB2.out), Nat.le_trans HB2.out.size hk3.size⟩); clear hs3 hk3 hr3))
  go_ret2
  refine ⟨w3.heap.size, rfl, HS3.out.1.later (below_new _ _), ?_, HS3.out.2⟩
  exact Row.new w3 [_, _, _, _] _
set_option maxHeartbeats 2000000 in
theorem open_home {base t : Nat} {w : World} {m : Mg} {c : CS} {P : List (List (List Nat))} {WT d : List Nat} {e : Nat} {T : List Nat} {k : Nat} (h : Hs base t w m c P WT d e T k) :
    Calls Tryz.prog 11 #[.pointer (some ⟨m.p, 0, none⟩)] w fun r w' => ∃ xp, r = .returned (.tuple #[.pointer (some ⟨xp, 0, none⟩), .int .i64 0]) ∧ Hs base t w' m c P WT d e T k ∧ Kept (fun q => q = m.p) w w' ∧ XAt w' xp m.p e (bstr T) k ∧ w.heap.size ≤ xp := by
  have HH := (show Hid (Hs base t w m c P WT d e T k) from h)
  have kL := xlook_home h
  obtain ⟨S, hS⟩ : ∃ S, S = bstr T := ⟨_, rfl⟩
  rw [← hS] at kL ⊢
  clear h hS
  go_enter Tryz.func11, Tryz.ntmps11
  go_wp2_with (go_at_call 28; refine kL.mono ?_; rintro r w2 ⟨l, ho, _, _, rfl⟩; have HO := (show Hid (Hs base t w2 m c P WT d e T k ∧ Kept (fun q => q = m.p) w w2) from ⟨⟨ho.ml.ms, HH.out.con, HH.out.hom, HH.out.leb, HH.out.wt⟩, ho.kp⟩); clear ho kL)
  go_ret2
  have hb := fun o o' => Below.after (below_new w2 o) (below_new (w2.alloc o) o')
  refine ⟨w2.heap.size + 1, ?_, HO.out.1.later (hb _ _), HO.out.2.later (hb _ _), ?_, by have := HO.out.2.size; omega⟩
  · rfl
  · have := Row.new (w2.alloc (.cells #[.pointer (some ⟨l.p, 0, none⟩), .int .u64 (e : Nat), .string S, .int .i64 (k : Nat)] 80)) (xCells m.p e S k) 87
    rw [World.size_alloc] at this
    exact this
theorem record_at {w : World} {xp mp n : Nat} {S : ByteArray} {k : Nat} (h : XAt w xp mp n S k) :
    Calls Tryz.prog 17 #[.pointer (some ⟨xp, 0, none⟩)] w fun e w' => e = .returned (.agg #[.int .u64 (n : Nat), .string S]) ∧ Below w.heap.size w w' := by
  obtain ⟨W, hW⟩ : ∃ W, W = w.alloc (.cells #[.int .u64 0, .string ⟨#[]⟩] 40) := ⟨_, rfl⟩
  have hb : Below w.heap.size w W := by rw [hW]; exact below_new _ _
  have hx : XAt W xp mp n S k := Row.later h hb
  have c1 : W.cell? ⟨xp, 1, none⟩ = some (.int .u64 (n : Nat)) := Row.cell (i := 1) hx rfl
  have c2 : W.cell? ⟨xp, 2, none⟩ = some (.string S) := Row.cell (i := 2) hx rfl
  clear h hb hx
  subst hW
  go_enter Tryz.func17, Tryz.ntmps17
  go_wp2_with fail
  (try simp only [Exit.inBlock, Exit.then])
  refine bodyPost_ret (v := .agg #[.int .u64 (n : Nat), .string S]) ?_ rfl ⟨rfl, below_new _ _⟩
  rw [results_cell_one rfl]
  go_simp
end Go.Proofs.YtkfecngkdlajgaaGreatDoor
namespace Go.Proofs.YtkfecngkdlajgaaGreatDoor
open Go.RowKit Go.Extern.Stop Go.Stop Go.Extern
set_option maxRecDepth 10000

theorem fit_room {base t : Nat} {w : World} {m : Mg} {c : CS} {P : List (List (List Nat))} {l : Lm} (h : ML base t w m c P l) (hsp : l.sp = false) {T : List Nat} (hT : T.length ≤ 512) (hn : fitB ((c.gp - 2) * c.gz) l.data T = false) : roomI l < ((9 + T.length : Nat) : Int) := by
  unfold fitB at hn
  rw [decide_eq_false_iff_not] at hn
  rw [← h.cap] at hn
  have := h.size
  unfold roomI
  rw [hsp]
  simp only [Bool.false_eq_true, if_false]
  omega
theorem PutP.kept {base t : Nat} {w w2 : World} {m : Mg} {c : CS} {P : List (List (List Nat))} {l : Lm} {d : List Nat} (h : PutP base t w m c P l d w2) : Kept (fun k => MFoot m c k ∨ LFoot l k) w w2 := by
  obtain ⟨t', m', c', P', h1, h2, h3, h4, h5, h6, h7, h8⟩ := h
  exact h7
set_option maxHeartbeats 4000000 in
theorem save_home {base t : Nat} {w : World} {m : Mg} {c : CS} {P : List (List (List Nat))} {WT d : List Nat} {e : Nat} {T : List Nat} {k : Nat} (h : Hs base t w m c P WT d e T k) (ht : t < 1800000000) (n : Nat) (T' : List Nat) (hok : okR n T') (hk : k < 1000000000000) :
    Calls Tryz.prog 33 #[.pointer (some ⟨m.p, 0, none⟩), .agg #[.int .u64 (n : Nat), .string (bstr T')]] w fun r w' => r = .returned (.tuple #[.int .i64 (nxK ((c.gp - 2) * c.gz) d T' k : Nat), .nilIface]) ∧ Svd base t w m c WT (nxD c.gz ((c.gp - 2) * c.gz) WT d n T') n T' (nxK ((c.gp - 2) * c.gz) d T' k) w' := by
  have HH := (show Hid (∀ X, Below w.heap.size w X → Hs base t X m c P WT d e T k) from fun X hb => h.later hb)
  have HR0 := (show Hid (t < 1800000000 ∧ okR n T' ∧ k < 1000000000000) from ⟨ht, hok, hk⟩)
  have HCap := (show Hid (∀ l X, ML base t X m c P l → l.dcap = (c.gp - 2) * c.gz) from fun l X q => q.cap)
  obtain ⟨cap, hcap⟩ : ∃ cap, cap = (c.gp - 2) * c.gz := ⟨_, rfl⟩
  obtain ⟨St, hSt⟩ : ∃ S, S = bstr T' := ⟨_, rfl⟩
  obtain ⟨S1, hS1⟩ : ∃ S, S = bstr T := ⟨_, rfl⟩
  obtain ⟨W, hW⟩ : ∃ W, W = w.alloc (.cells #[.int .u64 (n : Nat), .string St] 40) := ⟨_, rfl⟩
  have hbW : Below w.heap.size w W := by rw [hW]; exact below_new _ _
  have hrW : Row W w.heap.size [.int .u64 (n : Nat), .string St] 40 := by rw [hW]; exact Row.new w [_, _] _
  have kL := xlook_home (h.later hbW)
  have HW := (show Hid (Below w.heap.size w W ∧ Row W w.heap.size [.int .u64 (n : Nat), .string St] 40) from ⟨hbW, hrW⟩)
  have HSt := (show Hid (St = bstr T' ∧ S1 = bstr T ∧ cap = (c.gp - 2) * c.gz) from ⟨hSt, hS1, hcap⟩)
  rw [← hcap, ← hSt]
  rw [← hS1] at kL
  by_cases hfit : fitB cap d T' = true
  · rw [show nxK cap d T' k = k + 1 by unfold nxK; rw [if_pos hfit], show nxD c.gz cap WT d n T' = synD c.gz (appD c.gz d (recL n T')) by unfold nxD; rw [if_pos hfit]]
    have HFR := (show Hid (∀ l X, ML base t X m c P l → l.data = d → l.data.length + (15 + T'.length) ≤ l.dcap) from fun l X q hd => by rw [HCap.out l X q, hd]; unfold fitB at hfit; rw [hcap] at hfit; exact of_decide_eq_true hfit)
    have addY := fun {X : World} {l : Lm} (q : ML base t X m c P l) (hq : l.sp = false) (hr : l.data.length + (15 + T'.length) ≤ l.dcap) => add_yes q hq ht e S1 k n T' hok hr
    rw [← hSt] at addY
    have HWm := (show Hid (w.heap.size ≠ m.p) from Nat.ne_of_gt h.ms.ml.box.lt)
    have hk0 : (k : Int) < 1000000000000 := by omega
    clear h ht hok hk hSt hS1 hcap hbW hrW hfit
    go_enter Tryz.func33, Tryz.ntmps33
    go_wp2_with fail
    rw [← hW]
    clear hW
    go_wp2_with (first
      | (go_at_call 28; refine kL.mono ?_; rintro r w1 ⟨l, ho, hd, hsp, rfl⟩; have hr1 := HW.out.2.kept ho.kp (HWm.out); have hrA := hr1.alloc (.cells #[.pointer (some ⟨l.p, 0, none⟩), .int .u64 (e : Nat), .string S1, .int .i64 (k : Nat)] 80); have c0 := hrA.cell (i := 0) rfl; have c1 := hrA.cell (i := 1) rfl; have HSB := (show Hid (Row (w1.alloc (.cells #[.pointer (some ⟨l.p, 0, none⟩), .int .u64 (e : Nat), .string S1, .int .i64 (k : Nat)] 80)) w1.heap.size [.pointer (some ⟨l.p, 0, none⟩), .int .u64 (e : Nat), .string S1, .int .i64 (k : Nat)] 80) from Row.new w1 [_, _, _, _] _); have HO := (show Hid (OpenP base t W m c P 0 l (w1.alloc (.cells #[.pointer (some ⟨l.p, 0, none⟩), .int .u64 (e : Nat), .string S1, .int .i64 (k : Nat)] 80)) ∧ l.data = d ∧ l.sp = false ∧ ∀ q, LFoot l q → q < w1.heap.size) from ⟨ho.later (below_new _ _), hd, hsp, ho.ml.low⟩); clear ho hd hsp hr1 hrA kL)
      | (go_at_call 68; refine (addY HO.out.1.ml HO.out.2.2.1 (HFR.out l _ HO.out.1.ml HO.out.2.1)).mono ?_; rintro r w3 ⟨rfl, hp3⟩; have hk3 : Kept (fun i => MFoot m c i ∨ LFoot l i) (w1.alloc (.cells #[.pointer (some ⟨l.p, 0, none⟩), .int .u64 (e : Nat), .string S1, .int .i64 (k : Nat)] 80)) w3 := hp3.kept; have hs3 := HSB.out.kept hk3 (fun q => q.elim (fun q => HO.out.1.ml.ms.ml.off' HSB.out (by unfold NoMg; decide) q) (fun q => by have := HO.out.2.2.2 _ q; omega)); have s3 := hs3.cell (i := 3) rfl; have HP3 := (show Hid (PutP base t _ m c P l (synD c.gz (appD c.gz l.data (recL n T'))) w3) from hp3); clear hk3 hs3 hp3))
    go_ret2
    refine ⟨rfl, ?_⟩
    have hp := HP3.out
    rw [HO.out.2.1] at hp
    exact svd_put (HH.out w (Below.refl _ _)) HW.out.1 HO.out.1 HR0.out.2.1 hp
  · have hfit' : fitB cap d T' = false := by simpa using hfit
    rw [show nxK cap d T' k = 1 by unfold nxK; rw [if_neg hfit], show nxD c.gz cap WT d n T' = anD c.gz WT n T' by unfold nxD; rw [if_neg hfit]]
    have HFR := (show Hid (∀ l X, ML base t X m c P l → l.data = d → l.sp = false → roomI l < ((9 + T'.length : Nat) : Int)) from fun l X q hd hs => fit_room q hs hok.2.2 (by rw [hd, ← hcap]; exact hfit'))
    have addN := fun {X : World} {l : Lm} (q : ML base t X m c P l) (hr : roomI l < ((9 + T'.length : Nat) : Int)) => add_full q e S1 k n hok.1 T' hok.2.1 hok.2.2 hr
    have rnw := fun {X : World} (q : Ms base t X m c P) => renew_home q h.leb h.wt ht hok
    rw [← hSt] at addN rnw
    have HWm := (show Hid (w.heap.size ≠ m.p) from Nat.ne_of_gt h.ms.ml.box.lt)
    clear h ht hok hk hSt hS1 hcap hbW hrW hfit hfit'
    go_enter Tryz.func33, Tryz.ntmps33
    have M1 : Hid True := trivial
    go_wp2_with fail
    rw [← hW]
    clear hW
    go_wp2_with (first
      | (go_at_call 28; refine kL.mono ?_; rintro r w1 ⟨l, ho, hd, hsp, rfl⟩; have hr1 := HW.out.2.kept ho.kp (HWm.out); have hrA := hr1.alloc (.cells #[.pointer (some ⟨l.p, 0, none⟩), .int .u64 (e : Nat), .string S1, .int .i64 (k : Nat)] 80); have c0 := hrA.cell (i := 0) rfl; have c1 := hrA.cell (i := 1) rfl; have HRB := (show Hid (Row (w1.alloc (.cells #[.pointer (some ⟨l.p, 0, none⟩), .int .u64 (e : Nat), .string S1, .int .i64 (k : Nat)] 80)) w.heap.size [.int .u64 (n : Nat), .string St] 40) from hrA); have HO := (show Hid (OpenP base t W m c P 0 l (w1.alloc (.cells #[.pointer (some ⟨l.p, 0, none⟩), .int .u64 (e : Nat), .string S1, .int .i64 (k : Nat)] 80)) ∧ l.data = d ∧ l.sp = false) from ⟨ho.later (below_new _ _), hd, hsp⟩); clear ho hd hsp hr1 hrA kL)
      | (go_at_call 68; refine (addN HO.out.1.ml (HFR.out l _ HO.out.1.ml HO.out.2.1 HO.out.2.2)).mono ?_; rintro r w3 ⟨v3, rfl, he3, hb3⟩; obtain ⟨t8, u8, rfl⟩ : ∃ t u, v3 = .iface t u := (by rcases he3.nil with ⟨q, _⟩ | ⟨_, q⟩; exact absurd q (by decide); exact q); have hr3 := HRB.out.later hb3; have d0 := hr3.cell (i := 0) rfl; have d1 := hr3.cell (i := 1) rfl; have HE3 := (show Hid (ErX w3 (.iface t8 u8) 28 ∧ Ms base t w3 m c P) from ⟨he3, HO.out.1.ml.ms.later hb3⟩); have HK3 := (show Hid (Kept (MFoot m c) w w3) from ((Kept.of_below HW.out.1).trans (kp_mp HO.out.1.kp)).later hb3); clear he3 hb3 hr3)
      | (go_at_call 62; clear M1; refine (IsX_any HE3.out.1 30 (by decide)).mono ?_; rintro r w4 ⟨rfl, rfl⟩)
      | (go_at_call 62; refine (IsX_any HE3.out.1 6 (by decide)).mono ?_; rintro r w5 ⟨rfl, rfl⟩)
      | (go_at_call 31; refine (rnw HE3.out.2).mono ?_; rintro r w6 ⟨rfl, hs6⟩; have HS6 := (show Hid (Svd base t w m c WT (anD c.gz WT n T') n T' 1 w6) from hs6.from HK3.out); clear hs6))
    go_ret2
    exact ⟨rfl, HS6.out⟩
end Go.Proofs.YtkfecngkdlajgaaGreatDoor
namespace Go.Proofs.YtkfecngkdlajgaaGreatDoor
open Go.RowKit Go.Extern.Stop Go.Stop Go.Extern
set_option maxRecDepth 10000

theorem set3 (w : World) (xp : Nat) (v1 v2 v3 : Value) : Kept (fun q => q = xp) w (((w.setCell ⟨xp, 1, none⟩ v1).setCell ⟨xp, 2, none⟩ v2).setCell ⟨xp, 3, none⟩ v3) :=
  Kept.setCell (S := fun q => q = xp) (Kept.setCell (S := fun q => q = xp) (Kept.setCell (S := fun q => q = xp) (Kept.refl _ w) (p := ⟨xp, 1, none⟩) rfl _) (p := ⟨xp, 2, none⟩) rfl _) (p := ⟨xp, 3, none⟩) rfl _
theorem Hs.set3 {base t : Nat} {w : World} {m : Mg} {c : CS} {P : List (List (List Nat))} {WT d : List Nat} {e : Nat} {T : List Nat} {k : Nat} (h : Hs base t w m c P WT d e T k) {xp mp a k0 : Nat} {S : ByteArray} (hx : XAt w xp mp a S k0) (hxb : base ≤ xp) (v1 v2 v3 : Value) :
    Hs base t (((w.setCell ⟨xp, 1, none⟩ v1).setCell ⟨xp, 2, none⟩ v2).setCell ⟨xp, 3, none⟩ v3) m c P WT d e T k :=
  { h with ms := h.ms.beside (Go.Proofs.YtkfecngkdlajgaaGreatDoor.set3 w xp v1 v2 v3) (fun q e => ⟨_, _, e ▸ hx, by unfold NoMg; decide⟩) (fun q e => e ▸ hxb) }
theorem XAt.set3 {w : World} {xp mp a k0 : Nat} {S : ByteArray} (h : XAt w xp mp a S k0) (n : Nat) (S' : ByteArray) (k : Nat) :
    XAt (((w.setCell ⟨xp, 1, none⟩ (.int .u64 (n : Nat))).setCell ⟨xp, 2, none⟩ (.string S')).setCell ⟨xp, 3, none⟩ (.int .i64 (k : Nat))) xp mp n S' k := by
  have h1 := Row.set (i := 1) (.int .u64 (n : Nat)) h (by simp [xCells])
  have h2 := Row.set (i := 2) (.string S') h1 (by simp [xCells])
  exact Row.set (i := 3) (.int .i64 (k : Nat)) h2 (by simp [xCells])
theorem XAt.cells {w : World} {xp mp a k0 : Nat} {S : ByteArray} (h : XAt w xp mp a S k0) : w.cell? ⟨xp, 0, none⟩ = some (.pointer (some ⟨mp, 0, none⟩)) ∧ w.cell? ⟨xp, 1, none⟩ = some (.int .u64 (a : Nat)) ∧ w.cell? ⟨xp, 2, none⟩ = some (.string S) ∧ w.cell? ⟨xp, 3, none⟩ = some (.int .i64 (k0 : Nat)) ∧ w.frozen? ⟨xp, 1, none⟩ = false ∧ w.frozen? ⟨xp, 2, none⟩ = false ∧ w.frozen? ⟨xp, 3, none⟩ = false :=
  ⟨Row.cell (i := 0) h rfl, Row.cell (i := 1) h rfl, Row.cell (i := 2) h rfl, Row.cell (i := 3) h rfl, Row.frozen h 1, Row.frozen h 2, Row.frozen h 3⟩
set_option maxHeartbeats 4000000 in
theorem saveM_any {base t : Nat} {w : World} {m : Mg} {c : CS} {P : List (List (List Nat))} {WT d : List Nat} {e : Nat} {T : List Nat} {k : Nat} (h : Hs base t w m c P WT d e T k) {xp e0 k0 : Nat} {S0 : ByteArray} (hx : XAt w xp m.p e0 S0 k0) (hxb : base ≤ xp) (ht : t < 1800000000) (hk : k < 1000000000000) (n : Nat) (T' : List Nat) (hok : okR n T') :
    Calls Tryz.prog 15 #[.pointer (some ⟨xp, 0, none⟩), .agg #[.int .u64 (n : Nat), .string (bstr T')]] w fun r w' => r = .returned (.int .i64 0) ∧ ∃ t' m' c' P', t' ≤ t + 130 ∧ Hs base t' w' m' c' P' WT (nxD c.gz ((c.gp - 2) * c.gz) WT d n T') n T' (nxK ((c.gp - 2) * c.gz) d T' k) ∧ Gm c c' ∧ m'.p = m.p ∧ Kept (fun q => MFoot m c q ∨ q = xp) w w' ∧ XAt w' xp m.p n (bstr T') (nxK ((c.gp - 2) * c.gz) d T' k) := by
  have HH := (show Hid (∀ X, Below w.heap.size w X → Hs base t X m c P WT d e T k) from fun X hb => h.later hb)
  obtain ⟨W, hW⟩ : ∃ W, W = w.alloc (.cells #[.int .u64 (n : Nat), .string (bstr T')] 40) := ⟨_, rfl⟩
  have hbW : Below w.heap.size w W := by rw [hW]; exact below_new _ _
  have hrW : Row W w.heap.size [.int .u64 (n : Nat), .string (bstr T')] 40 := by rw [hW]; exact Row.new w [_, _] _
  have kR := fun X (hb : Below w.heap.size w X) => refused_yes (HH.out X hb).ms.ml n (bstr T') (by rw [bstr_size]; exact hok.2.2) (HH.out X hb).ms.spent
  have kN := fun X (hb : Below w.heap.size w X) => save_home (HH.out X hb) ht n T' hok hk
  obtain ⟨kk, hkk⟩ : ∃ kk, kk = nxK ((c.gp - 2) * c.gz) d T' k := ⟨_, rfl⟩
  obtain ⟨dd, hdd⟩ : ∃ dd, dd = nxD c.gz ((c.gp - 2) * c.gz) WT d n T' := ⟨_, rfl⟩
  rw [← hkk, ← hdd] at kN ⊢
  obtain ⟨S, hS⟩ : ∃ S, S = bstr T' := ⟨_, rfl⟩
  rw [← hS] at hW hrW kR kN ⊢
  have HX := (show Hid (XAt w xp m.p e0 S0 k0 ∧ base ≤ xp) from ⟨hx, hxb⟩)
  have HW := (show Hid (Below w.heap.size w W ∧ Row W w.heap.size [.int .u64 (n : Nat), .string S] 40) from ⟨hbW, hrW⟩)
  have hxW : XAt W xp m.p e0 S0 k0 := Row.later hx hbW
  have x0 := hxW.cells.1
  have c0 := hrW.cell (i := 0) rfl
  have c1 := hrW.cell (i := 1) rfl
  have HN := (show Hid (∀ X, Below w.heap.size w X → _) from kN)
  clear h hx hxb ht hk hok hbW hrW hkk hdd hS hxW kN
  go_enter Tryz.func15, Tryz.ntmps15
  go_wp2_with fail
  rw [← hW]
  clear hW
  go_region_with (go_at_call 30; refine (kR W.drew HW.out.1.drew).mono ?_; rintro r w2 ⟨rfl, hb2⟩; have HB2 := (show Hid (Below w.heap.size w w2) from Below.after HW.out.1.drew hb2); have hr2 := HW.out.2.later (Below.after (Below.refl _ W).drew hb2); have d0 := hr2.cell (i := 0) rfl; have d1 := hr2.cell (i := 1) rfl; have HR2 := (show Hid (Row w2 w.heap.size [.int .u64 (n : Nat), .string S] 40) from hr2); have hx2 : XAt w2 xp m.p e0 S0 k0 := Row.later HX.out.1 HB2.out; have y0 := hx2.cells.1; have HX2 := (show Hid (XAt w2 xp m.p e0 S0 k0) from hx2); clear hb2 hr2 hx2)
  all_goals
    go_wp2_with fail
    go_region_with (go_at_call 33; refine (HN.out w2.drew HB2.out.drew).mono ?_; rintro r w3 ⟨rfl, hs3⟩; have hk3 : Kept (MFoot m c) w2.drew w3 := (by obtain ⟨_, _, _, _, _, _, _, _, _, q⟩ := hs3; exact q); have hr3 := HR2.out.drew.kept hk3 (fun q => (HH.out w2 HB2.out).ms.ml.off' HR2.out (by unfold NoMg; decide) q); have e0' := hr3.cell (i := 0) rfl; have e1' := hr3.cell (i := 1) rfl; have hx3 : XAt w3 xp m.p e0 S0 k0 := Row.kept (Row.drew HX2.out) hk3 (fun q => (HH.out w2 HB2.out).ms.ml.off' HX2.out (by unfold NoMg; decide) q); obtain ⟨z0, z1, z2, z3, f1, f2, f3⟩ := hx3.cells; have HS3 := (show Hid (Svd base t w m c WT dd n T' kk w3 ∧ XAt w3 xp m.p e0 S0 k0) from ⟨hs3.from (Kept.of_below HB2.out.drew), hx3⟩); clear hs3 hk3 hr3 hx3)
    all_goals
      go_wp2_with fail
      go_ret
      obtain ⟨⟨t', m', c', P', g1, g2, g3, g4, g5, g6⟩, g7⟩ := HS3.out
      refine ⟨rfl, t', m', c', P', g1, g2.set3 g7 HX.out.2 _ _ _, g3, g4, ?_, g7.set3 n S kk⟩
      exact (g6.mono fun _ q => .inl q).trans ((set3 w3 xp _ _ _).mono fun _ q => .inr q)
end Go.Proofs.YtkfecngkdlajgaaGreatDoor
