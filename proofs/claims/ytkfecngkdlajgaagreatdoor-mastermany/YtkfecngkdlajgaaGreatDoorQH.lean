/-
  Frames of a log.
  Read of a manager.
  The bytes of a logical block on which nothing was written.
  What a nil log answers.
  Open where nothing can be opened.
-/
import Derived.Test.YtkfecngkdlajgaaGreatDoorQG
import Derived.Test.YtkfecngkdlajgaaGreatDoorKM
import Derived.Laws.MakeOwn
import Derived.Deep.RegionLaw
import Derived.Deep.AppendLies
namespace Go.Proofs.YtkfecngkdlajgaaGreatDoor
open Go.RowKit Go.Extern.Stop Go.Stop Go.Extern
set_option maxRecDepth 10000

theorem hidW {p : Prop} (h : p) : Hid p := h
theorem lown_row {w : World} {base e size n g : Nat} {v : Value} {xs : List Value} (h : w.ownsRow base e size v n xs) (hg : v.ownBlock = some g) : base ≤ g ∧ ∃ cs, Row w g cs e := by
  rcases h.2 with ⟨q, _⟩ | ⟨g', cap, cur, q, hb, hr, _⟩
  · rw [q] at hg; cases hg
  · rw [q] at hg; cases hg; exact ⟨hb, cur.toList, [], by simpa using hr⟩
def fzCells (q : Fm × Value) : List Value := [.int .i64 (q.1.1 : Nat), q.2]
/-- Frames that the call has made itself, their payloads too. -/
def FBk (base : Nat) (w : World) (v : Value) (fs : List Fm) : Prop :=
  ∃ vs : List Value, vs.length = fs.length ∧ w.ownsRow base 173 2 v fs.length ((fs.zip vs).flatMap fzCells) ∧ ∀ q ∈ fs.zip vs, w.ownsRow base 5 1 q.2 q.1.2.length (q.1.2.map u8v)
theorem FBk.later {base : Nat} {w w' : World} {v : Value} {fs : List Fm} (h : FBk base w v fs) (hb : Below w.heap.size w w') : FBk base w' v fs := by
  obtain ⟨vs, h1, h2, h3⟩ := h
  exact ⟨vs, h1, owns_later h2 hb, fun q hq => owns_later (h3 q hq) hb⟩
theorem grown_below {w W3 w4 : World} {e size n : Nat} {v : Value} {xs : List Value} (hb : Below w.heap.size w W3) (ho : W3.ownsRow w.heap.size e size v n xs) (hg : W3.grownBy w4 v.ownBlock) : Below w.heap.size w w4 := by
  refine hb.trans ⟨hg.os, hg.tape, hg.output, hg.size, fun k hk => hg.block k (Nat.lt_of_lt_of_le hk hb.size) fun q => ?_⟩
  have := (lown_row ho q.symm).1
  omega
theorem FBk.push {w0 w W3 : World} {v v1 : Value} {fs : List Fm} {x : Fm} (h : FBk w0.heap.size w v fs) (hb0 : Below w0.heap.size w0 w) (hb : Below w.heap.size w W3) (ho : W3.ownsRow w0.heap.size 5 1 v1 x.2.length (x.2.map u8v)) :
    ∃ xs, W3.ownsRow w0.heap.size 173 2 v fs.length xs ∧ ∀ w4 v', W3.grownBy w4 v.ownBlock → w4.ownsRow w0.heap.size 173 2 v' (fs.length + 1) (xs ++ [.int .i64 (x.1 : Nat), v1]) → FBk w0.heap.size w4 v' (fs ++ [x]) ∧ Below w0.heap.size w0 w4 := by
  obtain ⟨vs, h1, h2, h3⟩ := h.later hb
  refine ⟨_, h2, fun w4 v' hg hown => ⟨⟨vs ++ [v1], by simp [h1], ?_, ?_⟩, grown_below (Below.after hb0 hb) h2 hg⟩⟩
  · rw [List.zip_append h1.symm, List.flatMap_append]
    simpa [fzCells] using hown
  · have hk : Kept (fun k => v.ownBlock = some k) W3 w4 := ⟨hg.os, hg.tape, hg.output, hg.size, fun k hk hn => hg.block k hk (fun e => hn e.symm)⟩
    have hne : ∀ {u : Value} {n : Nat} {ys : List Value}, W3.ownsRow w0.heap.size 5 1 u n ys → ∀ g, u.ownBlock = some g → ¬ v.ownBlock = some g := fun hu g e1 e2 => by
      obtain ⟨_, cs, r1⟩ := lown_row hu e1
      obtain ⟨_, ds, r2⟩ := lown_row h2 e2
      exact r1.ne r2 (by decide) rfl
    intro q hq
    rw [List.zip_append h1.symm] at hq
    rcases List.mem_append.1 hq with hq | hq
    · exact owns_kept (h3 q hq) hk (hne (h3 q hq))
    · have : q = (x, v1) := by simpa using hq
      subst this
      exact owns_kept ho hk (hne ho)
set_option maxHeartbeats 8000000 in
theorem frames_any {base t : Nat} {w : World} {m : Mg} {c : CS} {P : List (List (List Nat))} {l : Lm} (h : ML base t w m c P l) :
    Calls Tryz.prog 57 #[.pointer (some ⟨l.p, 0, none⟩)] w fun e w' => ∃ v, e = .returned v ∧ FBk w.heap.size w' v l.fs ∧ Below w.heap.size w w' := by
  have hct := h.fr.count
  have hd := h.size
  obtain ⟨j0, hj, hy0, hy1, hy2⟩ := info_parts infoFm
  have c4 := h.la.cells.2.2.2.2.1
  obtain ⟨a, cap, ev, hc⟩ := frs_at h.la.frs
  have HS : Hid (l.fs.length ≤ 31744) := by show _ ≤ _; omega
  obtain ⟨wm, hmk, hown0, hgr0⟩ := run_make_own (P := Tryz.prog) (w := w) w.heap.size 122 173 j0 _ 2 Tryz.underlying122 hj hy0 hy1 .i64 .i64 l.fs.length (by rw [hy2]; omega) (by unfold maxLen; omega) (Nat.le_refl _)
  have HB0 : Hid (Below w.heap.size w wm) := (⟨hgr0.os, hgr0.tape, hgr0.output, hgr0.size, fun k hk => hgr0.block k hk (by simp)⟩ : Below _ _ _)
  have HF0 : Hid (FBk w.heap.size wm (.slice (some ⟨w.heap.size, 0, none⟩) 0 l.fs.length) []) := (⟨[], rfl, hown0, by simp⟩ : ∃ _, _)
  have HFS : Hid (∀ X, Below w.heap.size w X → X.cell? ⟨l.p, 4, none⟩ = some l.fv ∧ ∀ j x, l.fs[j]? = some x → ∃ g, a = some ⟨g, 0, none⟩ ∧ X.cell? ⟨g, j * 2, none⟩ = some (.int .i64 (x.1 : Nat)) ∧ X.cell? ⟨g, j * 2 + 1, none⟩ = some (.slice (some ⟨l.db, x.1 + 6, none⟩) x.2.length x.2.length)) := fun X hb => ⟨(h.later hb).la.cells.2.2.2.2.1, fun j x hx => by
    obtain ⟨g, e, h1, h2⟩ := hc j x hx
    exact ⟨g, e, by rw [hb.cell (World.block_lt_of_cell? w _ h1)]; exact h1, by rw [hb.cell (World.block_lt_of_cell? w _ h2)]; exact h2⟩⟩
  have HCl : Hid (∀ x ∈ l.fs, ∀ X, Below w.heap.size w X → Calls Tryz.prog 97 #[.slice (some ⟨l.db, x.1 + 6, none⟩) x.2.length x.2.length] X fun e w' => ∃ v', e = .returned v' ∧ Own X w' v' x.2) := fun x hx X hb => by
    obtain ⟨f1, f2, f3, f4, f5⟩ := h.fr.at_ x hx
    refine clone_any l.db (x.1 + 6) x.2.length x.2.length x.2 X rfl (by omega) fun i hi => ?_
    rw [(h.later hb).la.row (x.1 + 6 + i) (by omega)]
    have f6 : x.2.getD i 0 = ((l.data.drop (x.1 + 6)).take x.2.length).getD i 0 := by rw [f3]
    rw [f6]
    simp only [List.getD, List.getElem?_take, List.getElem?_drop]
    rw [if_pos hi]
  have d4 := (HFS.out wm HB0.out).1
  have HX1 : Hid (∀ x ∈ l.fs, x.1 ≤ 31744) := fun x hx => by
    have := (h.fr.at_ x hx).2.1
    omega
  have HGx : Hid (∀ j, j < l.fs.length → ∃ x, l.fs[j]? = some x ∧ x ∈ l.fs ∧ l.fs.take (j + 1) = l.fs.take j ++ [x]) := fun j hj => ⟨l.fs[j], List.getElem?_eq_getElem hj, List.getElem_mem hj, by rw [List.take_add_one, List.getElem?_eq_getElem hj]; rfl⟩
  obtain ⟨n, hn⟩ : ∃ n, n = l.fs.length := ⟨_, rfl⟩
  have HN : Hid (n = l.fs.length) := hn
  rw [ev] at c4 d4 HFS
  rw [← hn] at hmk HS HGx HF0 c4 d4 HFS
  have n1 : (n : Int) ≤ 31744 := by have := HS.out; omega
  clear h hct hd hown0 hgr0 hc hn ev
  go_enter Tryz.func57, Tryz.ntmps57
  go_wp2_with fail
  clear c4 d4 hmk
  go_loopg [3, 19] n (fun g s3 s19 wr => ∃ k : Nat, k + g = n ∧ s19 = .int .i64 k ∧ Hid (FBk w.heap.size wr s3 (l.fs.take k) ∧ Below w.heap.size w wr))
  case atStart => exact ⟨0, by omega, rfl, (⟨HF0.out, HB0.out⟩ : _ ∧ _)⟩
  case round =>
    obtain ⟨k, hk, rfl, I⟩ := hrel
    by_cases hlt : k < n
    · obtain ⟨x, hx, hxm, htk⟩ := HGx.out k hlt
      obtain ⟨g1, rfl, cm0, cm1⟩ := (HFS.out wr I.out.2).2 k x hx
      have HTk : Hid (l.fs.take (k + 1) = l.fs.take k ++ [x]) := htk
      have HCx : Hid (∀ X, Below w.heap.size w X → Calls Tryz.prog 97 #[.slice (some ⟨l.db, x.1 + 6, none⟩) x.2.length x.2.length] X fun e w' => ∃ v', e = .returned v' ∧ Own X w' v' x.2) := HCl.out x hxm
      have HTl : Hid ((l.fs.take k).length ≤ 31744) := by
        have := HS.out
        have := HN.out
        show _ ≤ _
        simp only [List.length_take]
        omega
      have HBs : Hid (w.heap.size ≤ wr.heap.size) := I.out.2.size
      have HUo : Hid (∀ g, u3.ownBlock = some g → g = wr.heap.size → False) := fun g hg e => by
        obtain ⟨vs, _, ho, _⟩ := I.out.1
        obtain ⟨_, cs, hr⟩ := lown_row ho hg
        have := hr.lt
        omega
      obtain ⟨xa, hxa⟩ : ∃ xa, xa = x.1 := ⟨_, rfl⟩
      obtain ⟨xn, hxn⟩ : ∃ xn, xn = x.2.length := ⟨_, rfl⟩
      have HXa : Hid (xa = x.1 ∧ xn = x.2.length) := (⟨hxa, hxn⟩ : _ ∧ _)
      rw [← hxa, ← hxn] at cm1 HCx
      rw [← hxa] at cm0
      obtain ⟨W, hW⟩ : ∃ W, W = wr.alloc (.cells #[.int .i64 (xa : Nat), .slice (some ⟨l.db, xa + 6, none⟩) xn xn] 173) := ⟨_, rfl⟩
      have HR : Hid (Row W wr.heap.size [.int .i64 (xa : Nat), .slice (some ⟨l.db, xa + 6, none⟩) xn xn] 173) := by rw [hW]; exact Row.new wr [.int .i64 (xa : Nat), .slice (some ⟨l.db, xa + 6, none⟩) xn xn] _
      have HBW : Hid (Below wr.heap.size wr W.drew) := by rw [hW]; exact (below_new wr _).drew
      clear hx hxm htk hxa hxn
      go_wp2_with fail
      rw [← hW]
      clear hW cm0 cm1
      have m0 := HR.out.cell (i := 0) rfl
      have m1 := HR.out.cell (i := 1) rfl
      go_wp2_with fail
      go_region_held3 (fun w' => w'.cell? ⟨wr.heap.size, 0, none⟩ = some (.int .i64 (xa : Nat)) ∧ w'.cell? ⟨wr.heap.size, 1, none⟩ = some (.slice (some ⟨l.db, xa + 6, none⟩) xn xn)) (first | exact ⟨by assumption, by assumption⟩ | go_keep) (first
        | (go_at_call 97; refine (HCx.out _ (Below.after I.out.2 HBW.out)).mono ?_; rintro e w2 ⟨v1, rfl, ho⟩; obtain ⟨a1, c1, e1, _⟩ := ho.row; rw [← HXa.out.2] at e1; subst e1; have HB2 : Hid (Below wr.heap.size wr w2) := Below.after HBW.out ho.2; have HO2 : Hid (w2.ownsRow w.heap.size 5 1 (.slice a1 xn c1) x.2.length (x.2.map u8v)) := lown_low ho.1 (Nat.le_trans HBs.out HBW.out.size); have HR2 : Hid (Row w2 wr.heap.size [.int .i64 (xa : Nat), .slice (some ⟨l.db, xa + 6, none⟩) xn xn] 173) := (HR.out.later (Below.drew (Below.refl _ _))).later ho.2; have m2 := HR2.out.cell (i := 0) rfl; have m3 := HR2.out.cell (i := 1) rfl; have m4 := (HR2.out.later (below_new w2 (.cells #[.int .i64 (xa : Nat), .slice a1 xn c1] 173))).cell (i := 0) rfl; have m5 := (HR2.out.later (below_new w2 (.cells #[.int .i64 (xa : Nat), .slice a1 xn c1] 173))).cell (i := 1) rfl; obtain ⟨xs, hx1, hfin⟩ := I.out.1.push I.out.2 (Below.after HB2.out (below_new w2 (.cells #[.int .i64 (xa : Nat), .slice a1 xn c1] 173))) (owns_later HO2.out (below_new w2 (.cells #[.int .i64 (xa : Nat), .slice a1 xn c1] 173))); have HXs : Hid ((w2.alloc (.cells #[.int .i64 (xa : Nat), .slice a1 xn c1] 173)).ownsRow w.heap.size 173 2 u3 (l.fs.take k).length xs) := hx1; have HFn := hidW hfin; clear hx1 hfin ho)
        | (refine step_append_lies _ (by rfl) _ _ _ (by rfl) w.heap.size 173 j0 _ 2 32 Tryz.underlying122 hj hy0 hy1 hy2 rfl (by omega) u3 (l.fs.take k).length xs (by rfl) HXs.out ⟨w2.heap.size, 0, none⟩ 1 1 [.int .i64 (xa : Nat), .slice a1 xn c1] (by rfl) (by rfl) (World.news_of_block (cs := #[.int .i64 (xa : Nat), .slice a1 xn c1]) (t := 173) (fr := (0, 0)) (lheap_new w2 _)) (by simp [Value.oneCell']) (by omega) (by have := HTl.out; unfold maxLen; omega) (by have := HTl.out; omega) (by have := HBs.out; have := HB2.out.size; simp; omega) (w2.heap.size + 1) (by simp) ?_; intro gg cc w4 hown4 hgrow hat hlt2; have hq := HFn.out w4 (.slice (some ⟨gg, 0, none⟩) ((l.fs.take k).length + 1) cc) hgrow (by rw [← HXa.out.1]; exact hown4); rw [← HTk.out] at hq; have HQ := hidW hq; have z0 := (hgrow.cell_far ⟨wr.heap.size, 0, none⟩ (World.block_lt_of_cell? _ _ m4) (fun e => HUo.out _ e.symm rfl)).trans m4; have z1 := (hgrow.cell_far ⟨wr.heap.size, 1, none⟩ (World.block_lt_of_cell? _ _ m5) (fun e => HUo.out _ e.symm rfl)).trans m5; clear hown4 hgrow hat hlt2 hq))
      all_goals
        go_wp2
        go_roundg (n - (k + 1))
        case measure => omega
        case rel => exact ⟨k + 1, by omega, by go_num, by have := HQ.out; rw [List.length_take] at this; exact this⟩
    · have hkn : k = n := by omega
      have HE : Hid (FBk w.heap.size wr u3 l.fs ∧ Below w.heap.size w wr) := by
        have := I.out
        rw [hkn, HN.out, List.take_length] at this
        exact this
      clear I
      go_wp2
      go_ret
      exact ⟨_, rfl, HE.out⟩
end Go.Proofs.YtkfecngkdlajgaaGreatDoor
namespace Go.Proofs.YtkfecngkdlajgaaGreatDoor
open Go.RowKit Go.Extern.Stop Go.Stop Go.Extern
set_option maxRecDepth 10000

set_option maxHeartbeats 2000000 in
theorem mread_blank {base : Nat} {w : World} {m : Mg} {c : CS} (h : MLies base w m c) (hl : m.lost = false) (hon : c.on = true) (hgp : 2 ≤ c.gp) (leb : Int) (page : Nat) (hh : hasB c leb = true) (hp : page + 2 < c.gp) (hu : (homeB m.bl leb).used ≤ (page : Int)) :
    Calls Tryz.prog 138 #[.pointer (some ⟨m.p, 0, none⟩), .int .i64 leb, .int .i64 (page : Nat)] w fun e w' => ∃ a k cap, e = .returned (.tuple #[.slice a k cap, .int .i64 0]) ∧ RdP base w m c (List.replicate c.gz 255) a k cap w' := by
  have hgs := h.chip.good.gs
  have hlen := h.len
  have kH := mhas_any h leb
  rw [hh] at kH
  have HP : Hid (∀ X, Below w.heap.size w X → Calls Tryz.prog 74 #[.pointer (some ⟨m.p, 0, none⟩)] X fun e w' => e = .returned (.int .i64 ((c.gp : Int) - 2)) ∧ Below X.heap.size X w') := fun X hb => mpages_any (h.later hb) hgp
  have HOf : Hid (∀ X, Below w.heap.size w X → Calls Tryz.prog 75 #[.pointer (some ⟨m.p, 0, none⟩)] X fun e w' => e = .returned (.bool false) ∧ MLies base w' m c ∧ Kept (fun k => k = m.p) X w') := fun X hb => by
    have := off_any (h.later hb)
    rw [hl, hon, off_same hl hon] at this
    exact this
  have HU : Hid (∀ X, MLies base X m c → Calls Tryz.prog 95 #[.pointer (some ⟨m.p, 0, none⟩), .int .i64 leb] X fun e w' => e = .returned (.int .i64 (homeB m.bl leb).used) ∧ Below X.heap.size X w') := fun X hX => mused_any hX leb
  have HPg : Hid (∀ X, MLies base X m c → Calls Tryz.prog 67 #[.pointer (some ⟨m.p, 0, none⟩)] X fun e w' => e = .returned (.int .i64 c.gz) ∧ Below X.heap.size X w') := fun X hX => mpage_any hX
  have HRp : Hid (∀ (b cc : Nat) X, X.cell? ⟨b, 0, none⟩ = some (.int .u8 255) → Calls Tryz.prog 186 #[.slice (some ⟨b, 0, none⟩) 1 cc, .int .i64 (c.gz : Nat)] X fun e w' => e = .returned (.slice (some ⟨X.heap.size, 0, none⟩) c.gz c.gz) ∧ Row w' X.heap.size (List.replicate c.gz (Value.int .u8 255)) 5 ∧ Below X.heap.size X w') := fun b cc X hX => repeat_any b 0 cc c.gz X (by omega) (by omega) hX
  obtain ⟨us, hus⟩ : ∃ us, us = (homeB m.bl leb).used := ⟨_, rfl⟩
  rw [← hus] at hu HU
  have p0 : (0 : Int) ≤ (page : Int) := by omega
  have p1 : ¬ (c.gp : Int) - 2 ≤ (page : Int) := by omega
  have p2 : us ≤ (page : Int) := by omega
  have p3 : (page : Int) ≤ 64 := by omega
  have p4 : ¬ (page : Int) < 0 := by omega
  clear h hl hon hgp hh hp hu hgs hlen hus
  go_enter Tryz.func138, Tryz.ntmps138
  go_wp2_with (first
    | (go_at_call 39; refine kH.mono ?_; rintro e w1 ⟨rfl, hb1⟩; have HB1 : Hid (Below w.heap.size w w1) := hb1; clear hb1)
    | (go_at_call 74; refine (HP.out _ HB1.out).mono ?_; rintro e w2 ⟨rfl, hb2⟩; have HB2 : Hid (Below w.heap.size w w2) := Below.after HB1.out hb2; clear hb2)
    | (go_at_call 75; refine (HOf.out _ HB2.out).mono ?_; rintro e w3 ⟨rfl, hl3, hk3⟩; have HL3 : Hid (MLies base w3 m c ∧ Kept (fun k => k = m.p) w w3) := ⟨hl3, (Kept.of_below HB2.out).trans hk3⟩; clear hl3 hk3)
    | (go_at_call 95; refine (HU.out _ HL3.out.1).mono ?_; rintro e w4 ⟨rfl, hb4⟩; have hl4 := HL3.out.1.later hb4; have HL4 : Hid (MLies base w4 m c ∧ Kept (fun k => k = m.p) w w4) := ⟨hl4, HL3.out.2.trans (.of_below hb4)⟩; clear hb4 hl4)
    | (go_at_call 67; have hn4 := below_new w4 (.cells #[.int .u8 255] 5); have hl5 := HL4.out.1.later hn4; refine (HPg.out _ hl5).mono ?_; rintro e w5 ⟨rfl, hb5⟩; have HL5 : Hid (MLies base w5 m c ∧ Kept (fun k => k = m.p) w w5) := ⟨hl5.later hb5, (HL4.out.2.trans (.of_below hn4)).trans (.of_below hb5)⟩; have c5 : w5.cell? ⟨w4.heap.size, 0, none⟩ = some (.int .u8 255) := ((Row.new w4 [.int .u8 255] 5).later hb5).cell (i := 0) rfl; clear hb5 hl5 hn4)
    | (go_at_call 186; refine (HRp.out w4.heap.size 1 w5 c5).mono ?_; rintro e w6 ⟨rfl, hr6, hb6⟩; have HL6 : Hid (MLies base w6 m c ∧ Kept (fun k => k = m.p) w w6 ∧ Row w6 w5.heap.size (List.replicate c.gz (Value.int .u8 255)) 5) := ⟨HL5.out.1.later hb6, HL5.out.2.trans (.of_below hb6), hr6⟩; clear hb6 hr6))
  refine bodyPost_ret (v := .tuple #[.slice (some ⟨w5.heap.size, 0, none⟩) c.gz c.gz, .int .i64 0]) ?_ rfl ⟨_, _, _, rfl, by simp, Nat.le_refl _, .inr ⟨w5.heap.size, 0, rfl, fun i hi => ?_⟩, .inr (fun b o e => by cases e; exact HL5.out.2.size), HL6.out.1, HL6.out.2.1⟩
  · simp [results, Tryz.f138, go_sem]
  · have hi' : i < c.gz := by simpa using hi
    rw [Nat.zero_add, HL6.out.2.2.cell (v := .int .u8 255) (by rw [List.getElem?_replicate, if_pos hi'])]
    simp [List.getD_eq_getElem?_getD, hi']
end Go.Proofs.YtkfecngkdlajgaaGreatDoor
namespace Go.Proofs.YtkfecngkdlajgaaGreatDoor
open Go.RowKit Go.Extern.Stop Go.Stop Go.Extern
set_option maxRecDepth 10000

end Go.Proofs.YtkfecngkdlajgaaGreatDoor
namespace Go.Proofs.YtkfecngkdlajgaaGreatDoor
open Go.RowKit Go.Extern.Stop Go.Stop Go.Extern
set_option maxRecDepth 10000

theorem append_nil (a : Option Addr) (n cap : Nat) (w : World) : Calls Tryz.prog 107 #[.pointer none, .slice a n cap] w fun e w' => e = .returned (.tuple #[.int .i64 0, .int .i64 14]) ∧ w = w' := by
  go_enter Tryz.func107, Tryz.ntmps107
  go_wp2_with fail
  go_ret2
  exact ⟨rfl, rfl⟩
end Go.Proofs.YtkfecngkdlajgaaGreatDoor
namespace Go.Proofs.YtkfecngkdlajgaaGreatDoor
open Go.RowKit Go.Extern.Stop Go.Stop Go.Extern
set_option maxRecDepth 10000

/-- Where the manager's Read of the first page fails, so does load; the world is as that Read left it. -/
theorem load_no {w : World} (v : Value) (leb x : Int) (hx : x ≠ 0) (S : World → Prop)
    (kR : Calls Tryz.prog 138 #[v, .int .i64 leb, .int .i64 0] w fun e w' => ∃ u, e = .returned (.tuple #[u, .int .i64 x]) ∧ S w') :
    Calls Tryz.prog 94 #[v, .int .i64 leb] w fun e w' => e = .returned (.tuple #[.slice none 0 0, .int .i64 x]) ∧ S w' := by
  go_enter Tryz.func94, Tryz.ntmps94
  go_wp2_with (go_at_call 138; refine kR.mono ?_; rintro e w1 ⟨u, rfl, hs⟩; have HS : Hid (S w1) := hs; clear hs)
  go_ret2
  exact ⟨rfl, HS.out⟩
theorem open_no {w : World} (v : Value) (leb x : Int) (hx : x ≠ 0) (S : World → Prop)
    (kR : Calls Tryz.prog 138 #[v, .int .i64 leb, .int .i64 0] w fun e w' => ∃ u, e = .returned (.tuple #[u, .int .i64 x]) ∧ S w') :
    Calls Tryz.prog 55 #[v, .int .i64 leb] w fun e w' => e = .returned (.tuple #[.pointer none, .int .i64 x]) ∧ S w' := by
  have kL := load_no v leb x hx S kR
  clear kR
  go_enter Tryz.func55, Tryz.ntmps55
  go_wp2_with (go_at_call 94; refine kL.mono ?_; rintro e w1 ⟨rfl, hs⟩; have HS : Hid (S w1) := hs; clear hs)
  go_ret2
  exact ⟨rfl, HS.out⟩
end Go.Proofs.YtkfecngkdlajgaaGreatDoor
