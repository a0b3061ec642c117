/-
  Both managers in one memory.
  models: a step of a script on the document's manager.
-/
import Derived.Test.YtfcmkkkdccnhgaaGreatDoorPA
import Derived.Test.YtfcmkkkdccnhgaaGreatDoorPB
import Derived.Test.YtfcmkkkdccnhgaaGreatDoorPC
import Derived.Test.YtfcmkkkdccnhgaaGreatDoorPD
namespace Go.Proofs.YtfcmkkkdccnhgaaGreatDoor
open Go.RowKit
set_option maxRecDepth 10000

/-- No block of the code's. -/
def NoM (t : TypeId) : Prop := t ≠ 91 ∧ t ≠ 94 ∧ t ≠ 67 ∧ t ≠ 72 ∧ t ≠ 182 ∧ t ≠ 43
theorem MLies.beside {S : Nat → Prop} {base : Nat} {w w' : World} {m : Mg} {c : CS} (h : MLies base w m c) (hk : Kept S w w') (hS : ∀ k, S k → ∃ cs t, Row w k cs t ∧ NoM t) : MLies base w' m c := by
  have n1 : ¬ S m.p := fun e => by
    obtain ⟨cs, t, hr, ht⟩ := hS _ e
    exact hr.ne h.box ht.1 rfl
  have n2 : ¬ S m.bb := fun e => by
    obtain ⟨cs, t, hr, ht⟩ := hS _ e
    exact hr.ne h.row ht.2.1 rfl
  refine ⟨h.box.kept hk n1, h.row.kept hk n2, h.chip.kept hk (fun k hf e => ?_) (fun b cs hb e => ?_), h.len, h.cap, h.low⟩
  · obtain ⟨cs, t, hr, ht⟩ := hS _ e
    exact h.chip.apart hr ht.2.2.1 ht.2.2.2.1 ht.2.2.2.2.1 hf
  · obtain ⟨cs', t, hr, ht⟩ := hS _ e
    exact hr.ne hb ht.2.2.2.2.2 rfl
theorem Al.beside {S : Nat → Prop} {base t : Nat} {X : World} {gz : Nat} {w w' : World} {m : Mg} {c : CS} {P : List (List (List Nat))} {f : Cont} (h : Al base t X gz w m c P f) (hk : Kept S w w') (hS : ∀ k, S k → ∃ cs t, Row w k cs t ∧ NoM t) (hl : ∀ k, S k → base ≤ k) : Al base t X gz w' m c P f :=
  ⟨⟨h.ms.ml.beside hk hS, h.ms.rp, h.ms.ty.keep hk (fun e => by have := hl _ e; have := h.ms.gb; omega), h.ms.gb, h.ms.rt⟩, Glb.kp h.gl hk (fun e => by have := hl _ e; have := h.hb; omega), h.fn, h.kp.trans (hk.mono hl), h.hb, h.z⟩
theorem DMs.typed {base : Nat} {w : World} {gb gp gz gr : Nat} {d : DMg} (h : DMs base w gb gp gz gr d) : ∀ k, DFoot d k → ∃ cs t, Row w k cs t ∧ NoM t := by
  rintro k (rfl | ⟨x, hx, hk⟩)
  · exact ⟨_, _, h.row, by decide, by decide, by decide, by decide, by decide, by decide⟩
  · exact ⟨_, _, pown_type (h.each x hx).own hk, by decide, by decide, by decide, by decide, by decide, by decide⟩
theorem DMs.foot_ge {base : Nat} {w : World} {gb gp gz gr : Nat} {d : DMg} (h : DMs base w gb gp gz gr d) : ∀ k, DFoot d k → base ≤ k := by
  rintro k (rfl | ⟨x, hx, hk⟩)
  · exact h.low.2
  · exact ((h.each x hx).own.lt k hk).1
theorem DMs.beside {base : Nat} {w w' : World} {gb gp gz gr : Nat} {d : DMg} {m : Mg} {c : CS} (h : DMs base w gb gp gz gr d) (hM : MLies base w m c) (hk : Kept (MFoot m c) w w') : DMs base w' gb gp gz gr d := by
  refine h.kept hk (fun k cs t hr ht => ?_)
  have hn : NoM t := by rcases ht with rfl | rfl | rfl | rfl <;> exact ⟨by decide, by decide, by decide, by decide, by decide, by decide⟩
  rintro (e | e | e)
  · exact hr.ne hM.box hn.1 e
  · exact hr.ne hM.row hn.2.1 e
  · exact hM.chip.apart hr hn.2.2.1 hn.2.2.2.1 hn.2.2.2.2.1 e
/-- Both tell the same of each logical block. -/
structure Agree (gb gr : Nat) (f : Cont) (d : DMg) : Prop where
  len : d.ls.length + gr + 2 = gb
  each : ∀ (i : Nat) x, d.ls[i]? = some x → (f i).getD [] = x.pg
theorem Agree.at {gb gr : Nat} {f : Cont} {d : DMg} (h : Agree gb gr f d) {leb : Int} (hb : inB gb gr leb) : ∃ (i : Nat) (x : LB), leb = i ∧ d.ls[i]? = some x ∧ (f leb).getD [] = x.pg := by
  have hl := h.len
  unfold inB at hb
  obtain ⟨i, rfl⟩ : ∃ i : Nat, leb = i := ⟨leb.toNat, by omega⟩
  have hi : i < d.ls.length := by omega
  exact ⟨i, _, rfl, List.getElem?_eq_getElem hi, h.each i _ (List.getElem?_eq_getElem hi)⟩
theorem Agree.in {gb gr : Nat} {f : Cont} {d : DMg} (h : Agree gb gr f d) (leb : Int) : inB gb gr leb ↔ 0 ≤ leb ∧ leb < d.ls.length := by
  have hl := h.len
  unfold inB
  omega
theorem Agree.put {gb gr : Nat} {f : Cont} {d : DMg} (h : Agree gb gr f d) {i : Nat} {x : LB} {v : Option (List (List Nat))} (hv : v.getD [] = x.pg) : Agree gb gr (setC f (i : Nat) v) (d.put i x) := by
  refine ⟨by simpa [DMg.put] using h.len, fun j y hy => ?_⟩
  unfold setC
  by_cases hj : j = i
  · subst hj
    rw [if_pos rfl]
    have hil : j < d.ls.length := by
      have := (List.getElem?_eq_some_iff.1 hy).1
      simpa [DMg.put] using this
    simp only [DMg.put] at hy
    rw [List.getElem?_set_self hil] at hy
    cases hy
    exact hv
  · rw [if_neg (by omega)]
    simp only [DMg.put] at hy
    rw [List.getElem?_set_ne (fun e => hj e.symm)] at hy
    exact h.each j y hy
end Go.Proofs.YtfcmkkkdccnhgaaGreatDoor
namespace Go.Proofs.YtfcmkkkdccnhgaaGreatDoor
open Go.RowKit
set_option maxRecDepth 10000

theorem fill_eq {gz : Nat} {l : List Nat} (h : l.length ≤ gz) : Hd.fillL l gz = fillP gz l := by unfold Hd.fillL fillP; rw [List.take_of_length_le h]
/-- The document's manager goes on with these contents. -/
def GoD (base gb gp gz gr p : Nat) (f : Cont) (d : DMg) (W w' : World) : Prop := (∃ d', d'.p = p ∧ DMs base w' gb gp gz gr d' ∧ Agree gb gr f d') ∧ Kept (DFoot d) W w'
theorem GoD.same {base gb gp gz gr : Nat} {f : Cont} {d : DMg} {W w' : World} (h : DMs base W gb gp gz gr d) (ha : Agree gb gr f d) (hb : Below W.heap.size W w') : GoD base gb gp gz gr d.p f d W w' := ⟨⟨d, rfl, h.later hb, ha⟩, .of_below hb⟩
theorem md_write {base gb gp gz gr : Nat} {f : Cont} {d : DMg} {W : World} (h : DMs base W gb gp gz gr d) (ha : Agree gb gr f d) (hp : 2 ≤ gp ∧ gp ≤ 64) (hz : 1 ≤ gz ∧ gz ≤ 512) (leb : Int) (a : Option Addr) (n cap : Nat) (l : List Nat) (hB : BArg W a n cap l) :
    Calls Tryz.prog 33 #[.pointer (some ⟨d.p, 0, none⟩), .int .i64 leb, .slice a n cap] W fun e w' => e = .returned (.int .i64 (wrC gb gp gz gr leb l f).1) ∧ GoD base gb gp gz gr d.p (wrC gb gp gz gr leb l f).2 d W w' := by
  have hn := hB.len_eq
  by_cases hin : inB gb gr leb
  · have hin2 := (ha.in leb).1 hin
    by_cases hl : gz < n
    · rw [wrC_no (.inr (by omega))]
      refine (dwrite_long h leb a n cap hin2 hl).mono ?_
      rintro e w' ⟨rfl, rfl⟩
      exact ⟨rfl, .same h ha (Below.refl _ _)⟩
    · obtain ⟨i, x, rfl, hx, hf⟩ := ha.at hin
      by_cases hfull : gp ≤ x.pg.length + 2
      · rw [wrC_full hin (by omega) (by rw [hf]; exact hfull)]
        refine (dwrite_full h hp i x hx a n cap (by omega) hfull).mono ?_
        rintro e w' ⟨rfl, hb⟩
        exact ⟨rfl, .same h ha hb⟩
      · rw [wrC_go hin (by omega) (by rw [hf]; exact hfull)]
        have := dwrite_go h hp hz i x hx a l cap hB.row hB.lt (by omega) (by omega)
        rw [← hn] at this
        refine this.mono ?_
        rintro e w' ⟨rfl, y, hy, hD, hk⟩
        exact ⟨rfl, ⟨d.put i y, rfl, hD, ha.put (by rw [hy, hf, fill_eq (by omega)]; rfl)⟩, hk⟩
  · rw [wrC_no (.inl hin)]
    refine (dwrite_none h leb a n cap (fun e => hin ((ha.in leb).2 e))).mono ?_
    rintro e w' ⟨rfl, rfl⟩
    exact ⟨rfl, .same h ha (Below.refl _ _)⟩
theorem md_unmap {base gb gp gz gr : Nat} {f : Cont} {d : DMg} {W : World} (h : DMs base W gb gp gz gr d) (ha : Agree gb gr f d) (leb : Int) :
    Calls Tryz.prog 34 #[.pointer (some ⟨d.p, 0, none⟩), .int .i64 leb] W fun e w' => e = .returned (.int .i64 (unC gb gr leb f).1) ∧ GoD base gb gp gz gr d.p (unC gb gr leb f).2 d W w' := by
  unfold unC
  by_cases hin : inB gb gr leb
  · rw [if_neg (fun e => e hin)]
    obtain ⟨i, x, rfl, hx, hf⟩ := ha.at hin
    refine (dunmap_go h i x hx).mono ?_
    rintro e w' ⟨rfl, hD, hk⟩
    exact ⟨rfl, ⟨d.put i noLB, rfl, hD, ha.put rfl⟩, hk⟩
  · rw [if_pos hin]
    refine (dunmap_no h leb (fun e => hin ((ha.in leb).2 e))).mono ?_
    rintro e w' ⟨rfl, rfl⟩
    exact ⟨rfl, .same h ha (Below.refl _ _)⟩
theorem md_change {base gb gp gz gr : Nat} {f : Cont} {d : DMg} {W : World} (h : DMs base W gb gp gz gr d) (ha : Agree gb gr f d) (hp : 2 ≤ gp ∧ gp ≤ 64) (hz : 1 ≤ gz ∧ gz ≤ 512) (leb : Int) (a : Option Addr) (n cap : Nat) (L : List PgD) (hB : PArg W a n cap L) :
    Calls Tryz.prog 35 #[.pointer (some ⟨d.p, 0, none⟩), .int .i64 leb, .slice a n cap] W fun e w' => e = .returned (.int .i64 (chC gb gp gz gr leb (L.map PgD.d) f).1) ∧ GoD base gb gp gz gr d.p (chC gb gp gz gr leb (L.map PgD.d) f).2 d W w' := by
  have hn : n = (L.map PgD.d).length := by rw [List.length_map]; exact hB.len_eq
  by_cases hin : inB gb gr leb
  · have hin2 := (ha.in leb).1 hin
    by_cases hm : n + 2 ≤ gp
    · obtain ⟨i, x, rfl, hx, hf⟩ := ha.at hin
      refine (dchange_any h hp hz i x hx a n cap L hB hm).mono ?_
      rintro e w' (⟨rfl, hb, dd, hd, hlong⟩ | ⟨rfl, hall, y, hy, hD, hk⟩)
      · rw [chC_no (.inr (fun hc => by have := hc.2 dd hd; omega))]
        exact ⟨rfl, .same h ha hb⟩
      · rw [chC_go hin ⟨by omega, hall⟩]
        refine ⟨rfl, ⟨d.put i y, rfl, hD, ha.put ?_⟩, hk⟩
        rw [hy]
        show (L.map PgD.d).map (fillP gz) = _
        exact List.map_congr_left fun dd hd => (fill_eq (hall dd hd)).symm
    · rw [chC_no (.inr (fun hc => hm (by omega)))]
      refine (dchange_many h hp leb a n cap hin2 (by omega)).mono ?_
      rintro e w' ⟨rfl, rfl⟩
      exact ⟨rfl, .same h ha (Below.refl _ _)⟩
  · rw [chC_no (.inl hin)]
    refine (dchange_none h leb a n cap (fun e => hin ((ha.in leb).2 e))).mono ?_
    rintro e w' ⟨rfl, rfl⟩
    exact ⟨rfl, .same h ha (Below.refl _ _)⟩
theorem GoD.back {base gb gp gz gr p : Nat} {f : Cont} {d : DMg} {W W1 w' : World} (h : GoD base gb gp gz gr p f d W1 w') (hb : Below W.heap.size W W1) : GoD base gb gp gz gr p f d W w' := ⟨h.1, (Kept.of_below hb).trans h.2⟩
theorem PBArg.later {w W : World} {a : Option Addr} {n cap : Nat} {l : List Nat} (h : BArg w a n cap l) (hb : Below w.heap.size w W) : BArg W a n cap l := ⟨h.len_eq, h.le, h.max, h.lt, h.row.later hb, h.nil⟩
set_option maxHeartbeats 2000000 in
theorem models_1 {base gb gp gz gr : Nat} {f : Cont} {d : DMg} {W : World} (h : DMs base W gb gp gz gr d) (ha : Agree gb gr f d) (leb : Int) (da : Option Addr) (dl dc : Nat) (pa : Option Addr) (pl pc : Nat) (data : List Nat) (hB : BArg W da dl dc data) (hp : 2 ≤ gp ∧ gp ≤ 64) (hz : 1 ≤ gz ∧ gz ≤ 512) :
    Calls Tryz.prog 8 #[.pointer (some ⟨d.p, 0, none⟩), .agg #[.int .i64 1, .int .i64 leb, .slice da dl dc, .slice pa pl pc]] W fun e w' => e = .returned (.int .i64 (wrC gb gp gz gr leb data f).1) ∧ GoD base gb gp gz gr d.p (wrC gb gp gz gr leb data f).2 d W w' := by
  obtain ⟨W1, hW1⟩ : ∃ W1, W1 = W.alloc (.cells #[.int .i64 1, .int .i64 leb, .slice da dl dc, .slice pa pl pc] 39) := ⟨_, rfl⟩
  have hr : Row W1 W.heap.size [.int .i64 1, .int .i64 leb, .slice da dl dc, .slice pa pl pc] 39 := by rw [hW1]; exact Row.new W _ _
  have hb : Below W.heap.size W W1 := by rw [hW1]; exact below_new W _
  have HB : Hid (Below W.heap.size W W1) := hb
  have y0 : W1.cell? ⟨W.heap.size, 0, none⟩ = some (.int .i64 1) := hr.cell (i := 0) rfl
  have y1 : W1.cell? ⟨W.heap.size, 1, none⟩ = some (.int .i64 leb) := hr.cell (i := 1) rfl
  have y2 : W1.cell? ⟨W.heap.size, 2, none⟩ = some (.slice da dl dc) := hr.cell (i := 2) rfl
  have y3 : W1.cell? ⟨W.heap.size, 3, none⟩ = some (.slice pa pl pc) := hr.cell (i := 3) rfl
  have kC := md_write (h.later hb) ha hp hz leb da dl dc data (PBArg.later hB hb)
  obtain ⟨R, hR⟩ : ∃ R, R = (wrC gb gp gz gr leb data f) := ⟨_, rfl⟩
  rw [← hR] at kC ⊢
  clear hR
  clear h ha hr hb hB hp hz
  go_enter Tryz.func8, Tryz.ntmps8
  go_wp2_with fail
  rw [← hW1]
  clear hW1
  go_wp2_with (go_at_call 33; refine kC.mono ?_; rintro e w2 ⟨rfl, hs⟩; have HS : Hid (GoD base gb gp gz gr d.p R.2 d W1 w2) := hs; clear hs)
  go_ret
  exact ⟨rfl, HS.out.back HB.out⟩
set_option maxHeartbeats 2000000 in
theorem models_2 {base gb gp gz gr : Nat} {f : Cont} {d : DMg} {W : World} (h : DMs base W gb gp gz gr d) (ha : Agree gb gr f d) (leb : Int) (da : Option Addr) (dl dc : Nat) (pa : Option Addr) (pl pc : Nat) :
    Calls Tryz.prog 8 #[.pointer (some ⟨d.p, 0, none⟩), .agg #[.int .i64 2, .int .i64 leb, .slice da dl dc, .slice pa pl pc]] W fun e w' => e = .returned (.int .i64 (unC gb gr leb f).1) ∧ GoD base gb gp gz gr d.p (unC gb gr leb f).2 d W w' := by
  obtain ⟨W1, hW1⟩ : ∃ W1, W1 = W.alloc (.cells #[.int .i64 2, .int .i64 leb, .slice da dl dc, .slice pa pl pc] 39) := ⟨_, rfl⟩
  have hr : Row W1 W.heap.size [.int .i64 2, .int .i64 leb, .slice da dl dc, .slice pa pl pc] 39 := by rw [hW1]; exact Row.new W _ _
  have hb : Below W.heap.size W W1 := by rw [hW1]; exact below_new W _
  have HB : Hid (Below W.heap.size W W1) := hb
  have y0 : W1.cell? ⟨W.heap.size, 0, none⟩ = some (.int .i64 2) := hr.cell (i := 0) rfl
  have y1 : W1.cell? ⟨W.heap.size, 1, none⟩ = some (.int .i64 leb) := hr.cell (i := 1) rfl
  have y2 : W1.cell? ⟨W.heap.size, 2, none⟩ = some (.slice da dl dc) := hr.cell (i := 2) rfl
  have y3 : W1.cell? ⟨W.heap.size, 3, none⟩ = some (.slice pa pl pc) := hr.cell (i := 3) rfl
  have kC := md_unmap (h.later hb) ha leb
  obtain ⟨R, hR⟩ : ∃ R, R = (unC gb gr leb f) := ⟨_, rfl⟩
  rw [← hR] at kC ⊢
  clear hR
  clear h ha hr hb
  go_enter Tryz.func8, Tryz.ntmps8
  go_wp2_with fail
  rw [← hW1]
  clear hW1
  go_wp2_with (go_at_call 34; refine kC.mono ?_; rintro e w2 ⟨rfl, hs⟩; have HS : Hid (GoD base gb gp gz gr d.p R.2 d W1 w2) := hs; clear hs)
  go_ret
  exact ⟨rfl, HS.out.back HB.out⟩
set_option maxHeartbeats 2000000 in
theorem models_3 {base gb gp gz gr : Nat} {f : Cont} {d : DMg} {W : World} (h : DMs base W gb gp gz gr d) (ha : Agree gb gr f d) (leb : Int) (da : Option Addr) (dl dc : Nat) (pa : Option Addr) (pl pc : Nat) (pages : List PgD) (hP : PArg W pa pl pc pages) (hp : 2 ≤ gp ∧ gp ≤ 64) (hz : 1 ≤ gz ∧ gz ≤ 512) :
    Calls Tryz.prog 8 #[.pointer (some ⟨d.p, 0, none⟩), .agg #[.int .i64 3, .int .i64 leb, .slice da dl dc, .slice pa pl pc]] W fun e w' => e = .returned (.int .i64 (chC gb gp gz gr leb (pages.map PgD.d) f).1) ∧ GoD base gb gp gz gr d.p (chC gb gp gz gr leb (pages.map PgD.d) f).2 d W w' := by
  obtain ⟨W1, hW1⟩ : ∃ W1, W1 = W.alloc (.cells #[.int .i64 3, .int .i64 leb, .slice da dl dc, .slice pa pl pc] 39) := ⟨_, rfl⟩
  have hr : Row W1 W.heap.size [.int .i64 3, .int .i64 leb, .slice da dl dc, .slice pa pl pc] 39 := by rw [hW1]; exact Row.new W _ _
  have hb : Below W.heap.size W W1 := by rw [hW1]; exact below_new W _
  have HB : Hid (Below W.heap.size W W1) := hb
  have y0 : W1.cell? ⟨W.heap.size, 0, none⟩ = some (.int .i64 3) := hr.cell (i := 0) rfl
  have y1 : W1.cell? ⟨W.heap.size, 1, none⟩ = some (.int .i64 leb) := hr.cell (i := 1) rfl
  have y2 : W1.cell? ⟨W.heap.size, 2, none⟩ = some (.slice da dl dc) := hr.cell (i := 2) rfl
  have y3 : W1.cell? ⟨W.heap.size, 3, none⟩ = some (.slice pa pl pc) := hr.cell (i := 3) rfl
  have kC := md_change (h.later hb) ha hp hz leb pa pl pc pages (hP.later hb)
  obtain ⟨R, hR⟩ : ∃ R, R = (chC gb gp gz gr leb (pages.map PgD.d) f) := ⟨_, rfl⟩
  rw [← hR] at kC ⊢
  clear hR
  clear h ha hr hb hP hp hz
  go_enter Tryz.func8, Tryz.ntmps8
  go_wp2_with fail
  rw [← hW1]
  clear hW1
  go_wp2_with (go_at_call 35; refine kC.mono ?_; rintro e w2 ⟨rfl, hs⟩; have HS : Hid (GoD base gb gp gz gr d.p R.2 d W1 w2) := hs; clear hs)
  go_ret
  exact ⟨rfl, HS.out.back HB.out⟩
set_option maxHeartbeats 2000000 in
theorem models_x {base gb gp gz gr : Nat} {f : Cont} {d : DMg} {W : World} (h : DMs base W gb gp gz gr d) (ha : Agree gb gr f d) (leb k : Int) (da : Option Addr) (dl dc : Nat) (pa : Option Addr) (pl pc : Nat) (n1 : ¬ k = 1) (n2 : ¬ k = 2) (n3 : ¬ k = 3) :
    Calls Tryz.prog 8 #[.pointer (some ⟨d.p, 0, none⟩), .agg #[.int .i64 k, .int .i64 leb, .slice da dl dc, .slice pa pl pc]] W fun e w' => e = .returned (.int .i64 ((0, f) : Int × Cont).1) ∧ GoD base gb gp gz gr d.p ((0, f) : Int × Cont).2 d W w' := by
  obtain ⟨W1, hW1⟩ : ∃ W1, W1 = W.alloc (.cells #[.int .i64 k, .int .i64 leb, .slice da dl dc, .slice pa pl pc] 39) := ⟨_, rfl⟩
  have hr : Row W1 W.heap.size [.int .i64 k, .int .i64 leb, .slice da dl dc, .slice pa pl pc] 39 := by rw [hW1]; exact Row.new W _ _
  have hb : Below W.heap.size W W1 := by rw [hW1]; exact below_new W _
  have HB : Hid (Below W.heap.size W W1) := hb
  have y0 : W1.cell? ⟨W.heap.size, 0, none⟩ = some (.int .i64 k) := hr.cell (i := 0) rfl
  have y1 : W1.cell? ⟨W.heap.size, 1, none⟩ = some (.int .i64 leb) := hr.cell (i := 1) rfl
  have y2 : W1.cell? ⟨W.heap.size, 2, none⟩ = some (.slice da dl dc) := hr.cell (i := 2) rfl
  have y3 : W1.cell? ⟨W.heap.size, 3, none⟩ = some (.slice pa pl pc) := hr.cell (i := 3) rfl
  have HS : Hid (GoD base gb gp gz gr d.p f d W1 W1) := .same (h.later hb) ha (Below.refl _ _)
  clear h ha hr hb
  go_enter Tryz.func8, Tryz.ntmps8
  go_wp2_with fail
  rw [← hW1]
  clear hW1
  go_wp2
  go_ret
  exact ⟨rfl, HS.out.back HB.out⟩
theorem models_go {base gb gp gz gr : Nat} {f : Cont} {d : DMg} {W : World} (h : DMs base W gb gp gz gr d) (ha : Agree gb gr f d) (o : EOp) (hB : BArg W o.da o.dl o.dc o.data) (hP : PArg W o.pa o.pl o.pc o.pages) (hp : 2 ≤ gp ∧ gp ≤ 64) (hz : 1 ≤ gz ∧ gz ≤ 512) :
    Calls Tryz.prog 8 #[.pointer (some ⟨d.p, 0, none⟩), .agg #[.int .i64 o.kind, .int .i64 o.leb, .slice o.da o.dl o.dc, .slice o.pa o.pl o.pc]] W fun e w' => e = .returned (.int .i64 (opC gb gp gz gr o f).1) ∧ GoD base gb gp gz gr d.p (opC gb gp gz gr o f).2 d W w' := by
  by_cases h1 : o.kind = 1
  · unfold opC; rw [if_pos h1, h1]; exact models_1 h ha o.leb o.da o.dl o.dc o.pa o.pl o.pc o.data hB hp hz
  · by_cases h2 : o.kind = 2
    · unfold opC; rw [if_neg h1, if_pos h2, h2]; exact models_2 h ha o.leb o.da o.dl o.dc o.pa o.pl o.pc
    · by_cases h3 : o.kind = 3
      · unfold opC; rw [if_neg h1, if_neg h2, if_pos h3, h3]; exact models_3 h ha o.leb o.da o.dl o.dc o.pa o.pl o.pc o.pages hP hp hz
      · unfold opC
        rw [if_neg h1, if_neg h2, if_neg h3]
        exact models_x h ha o.leb o.kind o.da o.dl o.dc o.pa o.pl o.pc h1 h2 h3
end Go.Proofs.YtfcmkkkdccnhgaaGreatDoor
