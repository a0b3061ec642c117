/-
  What enlisted of package scan answers.
  What Scan of package scan answers.
-/
import Derived.Test.YtkfecngkdlajgaaGreatDoorGL
import Derived.Test.YtkfecngkdlajgaaGreatDoorGOA
import Derived.Test.YtkfecngkdlajgaaGreatDoorGPA
import Derived.OwnWalk
namespace Go.Proofs.YtkfecngkdlajgaaGreatDoor
open Go.RowKit
set_option maxRecDepth 10000

/-- The list with one block more. -/
def enlist (l : List Bl) (b : Bl) : List Bl :=
  if b.st = 4 then
    (if findI l b.leb < 0 then l ++ [b] else
      match l[(findI l b.leb).toNat]? with
      | none => l ++ [b]
      | some o => if o.seq < b.seq then l.set (findI l b.leb).toNat (spoilt o) ++ [b] else l ++ [spoilt b])
  else l ++ [b]
theorem firstL_cases (leb : Int) : ∀ p : List (Nat × Bl), firstL leb p = -1 ∨ ∃ x ∈ p, firstL leb p = x.1 ∧ x.2.leb = leb
  | [] => .inl rfl
  | x :: r => by
    unfold firstL
    split
    · exact .inr ⟨x, by simp, rfl, by assumption⟩
    · rcases firstL_cases leb r with h | ⟨y, h1, h2⟩
      · exact .inl h
      · exact .inr ⟨y, by simp [h1], h2⟩
theorem find_cases (l : List Bl) (leb : Int) : findI l leb = -1 ∨ ∃ (i : Nat) (o : Bl), findI l leb = i ∧ l[i]? = some o ∧ o.st = 4 ∧ o.leb = leb := by
  rcases firstL_cases leb (sel 4 0 l) with h | ⟨x, h1, h2, h3⟩
  · exact .inl h
  · obtain ⟨_, q2, q3⟩ := sel_fst l 0 x h1
    exact .inr ⟨x.1, x.2, h2, by simpa using q2, q3, h3⟩
theorem infoBl : (Tryz.prog.info? 156).map (fun i => (i.zero, i.size, i.bytes)) = some (some (.agg #[.int .i64 0, .int .i64 0, .int .i64 0, .int .i64 0, .int .u64 0, .bool false]), 6, 48) := by kernel_rfl
theorem lrow_owns {w : World} {base g cap : Nat} {l : List Bl} (h : w.ownsRow base 156 6 (.slice (some ⟨g, 0, none⟩) l.length cap) l.length (l.flatMap blCells)) : LRow w (some ⟨g, 0, none⟩) l := by
  by_cases hl : l = []
  · exact .inl hl
  · obtain ⟨g', cap', hv, _, _, _, hr⟩ := Row.of_owns h (List.length_pos_iff.2 hl)
    simp only [Value.slice.injEq, Option.some.injEq, Addr.mk.injEq] at hv
    obtain rfl := hv.1.1
    refine .inr ⟨g, 0, rfl, fun i x hx => ?_⟩
    have key : ∀ k v, k < 6 → (blCells x)[k]? = some v → w.cell? ⟨g, 0 + i * 6 + k, none⟩ = some v := fun k v hk e => hr.cell (by rw [Nat.zero_add, flat_get blCells 6 bl_len k hk l i x hx]; exact e)
    exact ⟨key 0 _ (by omega) rfl, key 1 _ (by omega) rfl, key 2 _ (by omega) rfl, key 3 _ (by omega) rfl, key 4 _ (by omega) rfl, key 5 _ (by omega) rfl⟩
theorem bl_one (b : Bl) : ∀ u ∈ blCells b, u.oneCell' = true := by
  intro u h
  simp [blCells] at h
  rcases h with rfl | rfl | rfl | rfl | rfl | rfl <;> rfl
theorem bl_new (w : World) (b : Bl) (t : TypeId) : ∀ j u, (blCells b)[j]? = some u → (w.alloc (.cells #[.int .i64 b.st, .int .i64 b.cnt, .int .i64 b.leb, .int .i64 b.used, .int .u64 b.seq, .bool b.closed] t)).cell? ((⟨w.heap.size, 0, none⟩ : Addr).add j) = some u := by
  intro j u hj
  have e : (⟨w.heap.size, 0, none⟩ : Addr).add j = ⟨w.heap.size, j, none⟩ := by unfold Addr.add; split <;> simp_all
  rw [e]
  exact (Row.new w (blCells b) t).cell hj
theorem bl_newk (W : World) (b : Bl) (t : TypeId) (k : Nat) (hk : k = W.heap.size) : ∀ j u, (blCells b)[j]? = some u → (W.alloc (.cells #[.int .i64 b.st, .int .i64 b.cnt, .int .i64 b.leb, .int .i64 b.used, .int .u64 b.seq, .bool b.closed] t)).cell? ((⟨k, 0, none⟩ : Addr).add j) = some u := by
  subst hk
  exact bl_new W b t
/-- A list of blocks of one's own, with room for more. -/
def OwnL (base : Nat) (w : World) (g n cap : Nat) (l : List Bl) : Prop := n = l.length ∧ w.ownsRow base 156 6 (.slice (some ⟨g, 0, none⟩) n cap) n (l.flatMap blCells)
theorem OwnL.row {base : Nat} {w : World} {g n cap : Nat} {l : List Bl} (h : OwnL base w g n cap l) : LRow w (some ⟨g, 0, none⟩) l := by
  obtain ⟨rfl, h⟩ := h
  exact lrow_owns h
theorem OwnL.later {base : Nat} {w w' : World} {g n cap : Nat} {l : List Bl} (h : OwnL base w g n cap l) (hb : Below w.heap.size w w') : OwnL base w' g n cap l := ⟨h.1, owns_later h.2 hb⟩
theorem OwnL.low {base : Nat} {w : World} {g n cap : Nat} {l : List Bl} (h : OwnL base w g n cap l) : base ≤ g ∧ g < w.heap.size := by
  rcases h.2.2 with ⟨e, _⟩ | ⟨g', cap', cur, e, hbg, hgg, _⟩
  · cases e
  · simp only [Value.slice.injEq, Option.some.injEq, Addr.mk.injEq] at e
    obtain rfl := e.1.1
    exact ⟨hbg, (Array.getElem?_eq_some_iff.1 hgg).1⟩
theorem OwnL.grown {base : Nat} {w' : World} {g n cap : Nat} {l : List Bl} {b : Bl} (hn : n = l.length) (h : w'.ownsRow base 156 6 (.slice (some ⟨g, 0, none⟩) (n + 1) cap) (n + 1) (l.flatMap blCells ++ blCells b)) : OwnL base w' g (n + 1) cap (l ++ [b]) :=
  ⟨by simp [hn], by simpa using h⟩
theorem OwnL.set {base : Nat} {w : World} {g n cap i : Nat} {l : List Bl} {o : Bl} (h : OwnL base w g n cap l) (hi : l[i]? = some o) (b : Bl) :
    OwnL base ((((((w.setCell ⟨g, i * 6, none⟩ (.int .i64 b.st)).setCell ⟨g, i * 6 + 1, none⟩ (.int .i64 b.cnt)).setCell ⟨g, i * 6 + 2, none⟩ (.int .i64 b.leb)).setCell ⟨g, i * 6 + 3, none⟩ (.int .i64 b.used)).setCell ⟨g, i * 6 + 4, none⟩ (.int .u64 b.seq)).setCell ⟨g, i * 6 + 5, none⟩ (.bool b.closed)) g n cap (l.set i b) := by
  obtain ⟨hn, h⟩ := h
  have hil := (List.getElem?_eq_some_iff.1 hi).1
  refine ⟨by simpa using hn, ?_⟩
  have h0 := (h.stored (i * 6 + 0) (.int .i64 b.st)).1
  rw [flat_set blCells 6 bl_len 0 (by omega) (.int .i64 b.st) ⟨b.st, o.cnt, o.leb, o.used, o.seq, o.closed⟩ l i o hi rfl] at h0
  have h1 := (h0.stored (i * 6 + 1) (.int .i64 b.cnt)).1
  rw [flat_set blCells 6 bl_len 1 (by omega) (.int .i64 b.cnt) ⟨b.st, b.cnt, o.leb, o.used, o.seq, o.closed⟩ _ i ⟨b.st, o.cnt, o.leb, o.used, o.seq, o.closed⟩ (List.getElem?_set_self hil) rfl, List.set_set] at h1
  have h2 := (h1.stored (i * 6 + 2) (.int .i64 b.leb)).1
  rw [flat_set blCells 6 bl_len 2 (by omega) (.int .i64 b.leb) ⟨b.st, b.cnt, b.leb, o.used, o.seq, o.closed⟩ _ i ⟨b.st, b.cnt, o.leb, o.used, o.seq, o.closed⟩ (List.getElem?_set_self hil) rfl, List.set_set] at h2
  have h3 := (h2.stored (i * 6 + 3) (.int .i64 b.used)).1
  rw [flat_set blCells 6 bl_len 3 (by omega) (.int .i64 b.used) ⟨b.st, b.cnt, b.leb, b.used, o.seq, o.closed⟩ _ i ⟨b.st, b.cnt, b.leb, o.used, o.seq, o.closed⟩ (List.getElem?_set_self hil) rfl, List.set_set] at h3
  have h4 := (h3.stored (i * 6 + 4) (.int .u64 b.seq)).1
  rw [flat_set blCells 6 bl_len 4 (by omega) (.int .u64 b.seq) ⟨b.st, b.cnt, b.leb, b.used, b.seq, o.closed⟩ _ i ⟨b.st, b.cnt, b.leb, b.used, o.seq, o.closed⟩ (List.getElem?_set_self hil) rfl, List.set_set] at h4
  have h5 := (h4.stored (i * 6 + 5) (.bool b.closed)).1
  rw [flat_set blCells 6 bl_len 5 (by omega) (.bool b.closed) b _ i ⟨b.st, b.cnt, b.leb, b.used, b.seq, o.closed⟩ (List.getElem?_set_self hil) rfl, List.set_set] at h5
  exact h5
/-- What enlisted leaves. -/
def EnlPost (base : Nat) (w : World) (g n cap : Nat) (l : List Bl) (e : Ending) (w' : World) : Prop := e = .returned (.slice (some ⟨g, 0, none⟩) (n + 1) cap) ∧ OwnL base w' g (n + 1) cap l ∧ Kept (fun k => k = g) w w'
theorem kept_grown {w w1 w2 : World} {g : Nat} (h : Kept (fun k => k = g) w w1) (hg : w1.grownBy w2 (some g)) : Kept (fun k => k = g) w w2 :=
  h.trans ⟨hg.os, hg.tape, hg.output, hg.size, fun k hk hn => hg.block k hk (fun e => hn (by cases e; rfl))⟩

set_option maxHeartbeats 4000000 in
theorem enl_plain (base g n cap : Nat) (l : List Bl) (b : Bl) (w : World) (h : OwnL base w g n cap l) (hc : n < cap) (hb : b.st ≠ 4) :
    Calls Tryz.prog 119 #[.slice (some ⟨g, 0, none⟩) n cap, blV b] w (EnlPost base w g n cap (l ++ [b])) := by
  obtain ⟨i0, hi, hz0, hz1, hz2⟩ := info_parts infoBl
  have e4 : (b.st == 4) = false := by simp [hb]
  have HO : Hid (OwnL base w g n cap l) := h
  have HOW : Hid (((w.alloc (.cells #[.int .i64 b.st, .int .i64 b.cnt, .int .i64 b.leb, .int .i64 b.used, .int .u64 b.seq, .bool b.closed] 156)).alloc (.cells #[.int .i64 b.st, .int .i64 b.cnt, .int .i64 b.leb, .int .i64 b.used, .int .u64 b.seq, .bool b.closed] 156)).ownsRow base 156 6 (.slice (some ⟨g, 0, none⟩) n cap) n (l.flatMap blCells)) := (h.later (Below.after (below_new w _) (below_new _ _))).2
  have HCE : Hid (∀ j u, (blCells b)[j]? = some u → ((w.alloc (.cells #[.int .i64 b.st, .int .i64 b.cnt, .int .i64 b.leb, .int .i64 b.used, .int .u64 b.seq, .bool b.closed] 156)).alloc (.cells #[.int .i64 b.st, .int .i64 b.cnt, .int .i64 b.leb, .int .i64 b.used, .int .u64 b.seq, .bool b.closed] 156)).cell? ((⟨w.heap.size + 1, 0, none⟩ : Addr).add j) = some u) := bl_newk _ b _ _ (by simp)
  have HKP : Hid (Kept (fun k => k = g) w ((w.alloc (.cells #[.int .i64 b.st, .int .i64 b.cnt, .int .i64 b.leb, .int .i64 b.used, .int .u64 b.seq, .bool b.closed] 156)).alloc (.cells #[.int .i64 b.st, .int .i64 b.cnt, .int .i64 b.leb, .int .i64 b.used, .int .u64 b.seq, .bool b.closed] 156))) := ((Kept.refl (fun k => k = g) w).alloc _).alloc _
  clear h hb
  unfold blV
  go_enter Tryz.func119, Tryz.ntmps119
  go_wp2_with (at_builtin; refine wpList_append_fits _ rfl (.tmp 35) (.tmp 37) 68 rfl base 156 i0 6 Tryz.underlying68 hi hz1 g n cap (l.flatMap blCells) rfl HOW.out ⟨w.heap.size + 1, 0, none⟩ 1 1 (blCells b) rfl rfl HCE.out (bl_one b) (by omega) ?_; intro w9 ho hg; have HP : Hid (EnlPost base w g n cap (l ++ [b]) (.returned (.slice (some ⟨g, 0, none⟩) (n + 1) cap)) w9) := ⟨rfl, OwnL.grown HO.out.1 ho, kept_grown HKP.out hg⟩; clear ho hg)
  go_ret
  exact HP.out
set_option maxHeartbeats 4000000 in
theorem enl_first (base g n cap : Nat) (l : List Bl) (b : Bl) (w : World) (h : OwnL base w g n cap l) (hc : n < cap) (h256 : cap ≤ 256) (hb : b.st = 4) (hf : findI l b.leb = -1) :
    Calls Tryz.prog 119 #[.slice (some ⟨g, 0, none⟩) n cap, blV b] w (EnlPost base w g n cap (l ++ [b])) := by
  obtain ⟨i0, hi, hz0, hz1, hz2⟩ := info_parts infoBl
  have e4 : (b.st == 4) = true := by simp [hb]
  have HO : Hid (OwnL base w g n cap l) := h
  obtain ⟨W, hW⟩ : ∃ W, W = w.alloc (.cells #[.int .i64 b.st, .int .i64 b.cnt, .int .i64 b.leb, .int .i64 b.used, .int .u64 b.seq, .bool b.closed] 156) := ⟨_, rfl⟩
  have hR : Row W w.heap.size (blCells b) 156 := by rw [hW]; exact Row.new w (blCells b) _
  have hBW : Below w.heap.size w W := by rw [hW]; exact below_new w _
  have cF := find_any n cap l (some ⟨g, 0, none⟩) b.leb h.1 (by omega) W (h.later hBW).row
  rw [hf] at cF
  have a0 : W.cell? ⟨w.heap.size, 0, none⟩ = some (.int .i64 b.st) := hR.cell (i := 0) rfl
  have a2 : W.cell? ⟨w.heap.size, 2, none⟩ = some (.int .i64 b.leb) := hR.cell (i := 2) rfl
  have HR : Hid (Row W w.heap.size (blCells b) 156) := hR
  have HBW : Hid (Below w.heap.size w W) := hBW
  clear h hb hf hR hBW
  unfold blV
  go_enter Tryz.func119, Tryz.ntmps119
  go_wp2_with fail
  rw [← hW]
  clear hW
  go_wp2_with (first
    | (go_at_call 77; refine cF.mono ?_; rintro e w2 ⟨rfl, hb2⟩; have hR2 := HR.out.later hb2; have d0 : w2.cell? ⟨w.heap.size, 0, none⟩ = some (.int .i64 b.st) := hR2.cell (i := 0) rfl; have d1 : w2.cell? ⟨w.heap.size, 1, none⟩ = some (.int .i64 b.cnt) := hR2.cell (i := 1) rfl; have d2 : w2.cell? ⟨w.heap.size, 2, none⟩ = some (.int .i64 b.leb) := hR2.cell (i := 2) rfl; have d3 : w2.cell? ⟨w.heap.size, 3, none⟩ = some (.int .i64 b.used) := hR2.cell (i := 3) rfl; have d4 : w2.cell? ⟨w.heap.size, 4, none⟩ = some (.int .u64 b.seq) := hR2.cell (i := 4) rfl; have d5 : w2.cell? ⟨w.heap.size, 5, none⟩ = some (.bool b.closed) := hR2.cell (i := 5) rfl; have HB2 : Hid (Below w.heap.size w w2) := Below.after HBW.out hb2; have HOW : Hid ((w2.alloc (.cells #[.int .i64 b.st, .int .i64 b.cnt, .int .i64 b.leb, .int .i64 b.used, .int .u64 b.seq, .bool b.closed] 156)).ownsRow base 156 6 (.slice (some ⟨g, 0, none⟩) n cap) n (l.flatMap blCells)) := (HO.out.later (Below.after HB2.out (below_new w2 _))).2; have HCE : Hid (∀ j u, (blCells b)[j]? = some u → (w2.alloc (.cells #[.int .i64 b.st, .int .i64 b.cnt, .int .i64 b.leb, .int .i64 b.used, .int .u64 b.seq, .bool b.closed] 156)).cell? ((⟨w2.heap.size, 0, none⟩ : Addr).add j) = some u) := bl_newk _ b _ _ rfl; have HKP : Hid (Kept (fun k => k = g) w (w2.alloc (.cells #[.int .i64 b.st, .int .i64 b.cnt, .int .i64 b.leb, .int .i64 b.used, .int .u64 b.seq, .bool b.closed] 156))) := (Kept.of_below (S := fun k => k = g) HB2.out).alloc _; clear hb2 hR2)
    | (at_builtin; refine wpList_append_fits _ rfl (.tmp 35) (.tmp 37) 68 rfl base 156 i0 6 Tryz.underlying68 hi hz1 g n cap (l.flatMap blCells) rfl HOW.out ⟨w2.heap.size, 0, none⟩ 1 1 (blCells b) rfl rfl HCE.out (bl_one b) (by omega) ?_; intro w9 ho hg; have HP : Hid (EnlPost base w g n cap (l ++ [b]) (.returned (.slice (some ⟨g, 0, none⟩) (n + 1) cap)) w9) := ⟨rfl, OwnL.grown HO.out.1 ho, kept_grown HKP.out hg⟩; clear ho hg))
  go_ret
  exact HP.out
theorem OwnL.same {base : Nat} {w w' : World} {g n cap : Nat} {l : List Bl} (h : OwnL base w g n cap l) (e : w'.heap[g]? = w.heap[g]?) : OwnL base w' g n cap l := by
  refine ⟨h.1, h.2.1, ?_⟩
  rcases h.2.2 with hn | ⟨g', cap', cur, hv, hbg, hgg, rest⟩
  · exact .inl hn
  · refine .inr ⟨g', cap', cur, hv, hbg, ?_, rest⟩
    simp only [Value.slice.injEq, Option.some.injEq, Addr.mk.injEq] at hv
    rw [← hv.1.1, e, hv.1.1]
    exact hgg
theorem six_other (W : World) {g b : Nat} (hne : ¬ g = b) (v0 v1 v2 v3 v4 v5 : Value) :
    ((((((W.setCell ⟨b, 0, none⟩ v0).setCell ⟨b, 1, none⟩ v1).setCell ⟨b, 2, none⟩ v2).setCell ⟨b, 3, none⟩ v3).setCell ⟨b, 4, none⟩ v4).setCell ⟨b, 5, none⟩ v5).heap[g]? = W.heap[g]? := by
  rw [Below.heap_setCell _ _ _ g hne, Below.heap_setCell _ _ _ g hne, Below.heap_setCell _ _ _ g hne, Below.heap_setCell _ _ _ g hne, Below.heap_setCell _ _ _ g hne, Below.heap_setCell _ _ _ g hne]
set_option maxHeartbeats 4000000 in
theorem enl_newer (base g n cap i : Nat) (l : List Bl) (b o : Bl) (w : World) (h : OwnL base w g n cap l) (hc : n < cap) (h256 : cap ≤ 256) (hb : b.st = 4) (hf : findI l b.leb = i) (hi0 : l[i]? = some o) (hs : o.seq < b.seq) :
    Calls Tryz.prog 119 #[.slice (some ⟨g, 0, none⟩) n cap, blV b] w (EnlPost base w g n cap (l.set i (spoilt o) ++ [b])) := by
  obtain ⟨i0, hi, hz0, hz1, hz2⟩ := info_parts infoBl
  have e4 : (b.st == 4) = true := by simp [hb]
  have HO : Hid (OwnL base w g n cap l) := h
  have hin : i < n := by rw [h.1]; exact (List.getElem?_eq_some_iff.1 hi0).1
  have n0 : ¬ (i : Int) < 0 := by omega
  have n1 : (i : Int) < (n : Int) := by omega
  obtain ⟨W, hW⟩ : ∃ W, W = w.alloc (.cells #[.int .i64 b.st, .int .i64 b.cnt, .int .i64 b.leb, .int .i64 b.used, .int .u64 b.seq, .bool b.closed] 156) := ⟨_, rfl⟩
  have hR : Row W w.heap.size (blCells b) 156 := by rw [hW]; exact Row.new w (blCells b) _
  have hBW : Below w.heap.size w W := by rw [hW]; exact below_new w _
  have cF := find_any n cap l (some ⟨g, 0, none⟩) b.leb h.1 (by omega) W (h.later hBW).row
  rw [hf] at cF
  have a0 : W.cell? ⟨w.heap.size, 0, none⟩ = some (.int .i64 b.st) := hR.cell (i := 0) rfl
  have a2 : W.cell? ⟨w.heap.size, 2, none⟩ = some (.int .i64 b.leb) := hR.cell (i := 2) rfl
  have HR : Hid (Row W w.heap.size (blCells b) 156) := hR
  have HBW : Hid (Below w.heap.size w W) := hBW
  have HI0 : Hid (l[i]? = some o) := hi0
  have hgl := h.low.2
  have hgw : ¬ g = w.heap.size := by omega
  have hwg : ¬ w.heap.size = g := by omega
  have cS := fun X => spoilt_any o X
  have HSP : Hid (spoilt o = ⟨3, o.cnt, 0, 0, 0, false⟩) := rfl
  obtain ⟨so, hso⟩ : ∃ so, so = spoilt o := ⟨_, rfl⟩
  simp only [← hso] at cS
  rw [← hso]
  unfold blV at cS
  clear h hb hf hR hBW hi0 hso
  unfold blV
  go_enter Tryz.func119, Tryz.ntmps119
  go_wp2_with fail
  rw [← hW]
  clear hW
  go_wp2_with (first
    | (go_at_call 77; refine cF.mono ?_; rintro e w2 ⟨rfl, hb2⟩; have hR2 := HR.out.later hb2; have d4 : w2.cell? ⟨w.heap.size, 4, none⟩ = some (.int .u64 b.seq) := hR2.cell (i := 4) rfl; have HB2 : Hid (Below w.heap.size w w2) := Below.after HBW.out hb2; have HR2 : Hid (Row w2 w.heap.size (blCells b) 156) := hR2; have HO2 : Hid (OwnL base w2 g n cap l) := HO.out.later HB2.out; obtain ⟨g0, g1, g2, g3, g4, g5⟩ : BlAt w2 g (i * 6) o := (by rcases HO2.out.row with e | ⟨b', off', e, hcs⟩; (have := HI0.out; rw [e] at this; simp at this); (cases e; have := hcs i o HI0.out; rw [Nat.zero_add] at this; exact this)); clear hb2 hR2))
  go_region
  have HO3 : Hid (OwnL base w2.drew g n cap l) := HO2.out
  have HR3 : Hid (Row w2.drew w.heap.size (blCells b) 156) := HR2.out
  have HB3 : Hid (Below w.heap.size w w2.drew) := HB2.out.drew
  have G3 : BlAt w2.drew g (i * 6) o := ⟨g0, g1, g2, g3, g4, g5⟩
  obtain ⟨w3, hw3⟩ : ∃ w3, w3 = w2.drew := ⟨_, rfl⟩
  rw [← hw3] at HO3 HR3 HB3 G3 ⊢
  clear hw3 g0 g1 g2 g3 g4 g5 HO2 HR2 HB2 d4
  obtain ⟨g0, g1, g2, g3, g4, g5⟩ := G3
  go_wp2_with (first
    | (go_at_call 160; refine (cS _).mono ?_; rintro e w4 ⟨rfl, hb4⟩; have HO4 : Hid (OwnL base w4 g n cap l) := HO3.out.later hb4; have hR4 := HR3.out.later hb4; have HR4 : Hid (Row w4 w.heap.size (blCells b) 156) := hR4; have d0 : w4.cell? ⟨w.heap.size, 0, none⟩ = some (.int .i64 b.st) := hR4.cell (i := 0) rfl; have d1 : w4.cell? ⟨w.heap.size, 1, none⟩ = some (.int .i64 b.cnt) := hR4.cell (i := 1) rfl; have d2 : w4.cell? ⟨w.heap.size, 2, none⟩ = some (.int .i64 b.leb) := hR4.cell (i := 2) rfl; have d3 : w4.cell? ⟨w.heap.size, 3, none⟩ = some (.int .i64 b.used) := hR4.cell (i := 3) rfl; have d4 : w4.cell? ⟨w.heap.size, 4, none⟩ = some (.int .u64 b.seq) := hR4.cell (i := 4) rfl; have d5 : w4.cell? ⟨w.heap.size, 5, none⟩ = some (.bool b.closed) := hR4.cell (i := 5) rfl; obtain ⟨q0, q1, q2, q3, q4, q5⟩ : BlAt w4 g (i * 6) o := (by rcases HO4.out.row with e | ⟨b', off', e, hcs⟩; (have := HI0.out; rw [e] at this; simp at this); (cases e; have := hcs i o HI0.out; rw [Nat.zero_add] at this; exact this)); have fz : ∀ k, w4.frozen? ⟨g, k, none⟩ = false := fun k => HO4.out.2.frozenAt k; have HB4 : Hid (Below w.heap.size w w4) := Below.after HB3.out hb4; have HOW : Hid ((((((((w4.setCell ⟨g, i * 6, none⟩ (.int .i64 so.st)).setCell ⟨g, i * 6 + 1, none⟩ (.int .i64 so.cnt)).setCell ⟨g, i * 6 + 2, none⟩ (.int .i64 so.leb)).setCell ⟨g, i * 6 + 3, none⟩ (.int .i64 so.used)).setCell ⟨g, i * 6 + 4, none⟩ (.int .u64 so.seq)).setCell ⟨g, i * 6 + 5, none⟩ (.bool so.closed)).alloc (.cells #[.int .i64 b.st, .int .i64 b.cnt, .int .i64 b.leb, .int .i64 b.used, .int .u64 b.seq, .bool b.closed] 156)).ownsRow base 156 6 (.slice (some ⟨g, 0, none⟩) n cap) n ((l.set i so).flatMap blCells)) := ((HO4.out.set HI0.out so).later (below_new _ _)).2; have HCE : Hid (∀ j u, (blCells b)[j]? = some u → (((((((w4.setCell ⟨g, i * 6, none⟩ (.int .i64 so.st)).setCell ⟨g, i * 6 + 1, none⟩ (.int .i64 so.cnt)).setCell ⟨g, i * 6 + 2, none⟩ (.int .i64 so.leb)).setCell ⟨g, i * 6 + 3, none⟩ (.int .i64 so.used)).setCell ⟨g, i * 6 + 4, none⟩ (.int .u64 so.seq)).setCell ⟨g, i * 6 + 5, none⟩ (.bool so.closed)).alloc (.cells #[.int .i64 b.st, .int .i64 b.cnt, .int .i64 b.leb, .int .i64 b.used, .int .u64 b.seq, .bool b.closed] 156)).cell? ((⟨w4.heap.size, 0, none⟩ : Addr).add j) = some u) := bl_newk _ b _ _ (by simp [World.setCell]); have HKP : Hid (Kept (fun k => k = g) w (((((((w4.setCell ⟨g, i * 6, none⟩ (.int .i64 so.st)).setCell ⟨g, i * 6 + 1, none⟩ (.int .i64 so.cnt)).setCell ⟨g, i * 6 + 2, none⟩ (.int .i64 so.leb)).setCell ⟨g, i * 6 + 3, none⟩ (.int .i64 so.used)).setCell ⟨g, i * 6 + 4, none⟩ (.int .u64 so.seq)).setCell ⟨g, i * 6 + 5, none⟩ (.bool so.closed)).alloc (.cells #[.int .i64 b.st, .int .i64 b.cnt, .int .i64 b.leb, .int .i64 b.used, .int .u64 b.seq, .bool b.closed] 156))) := (((((((Kept.of_below (S := fun k => k = g) HB4.out).setCell rfl _).setCell rfl _).setCell rfl _).setCell rfl _).setCell rfl _).setCell rfl _).alloc _; have HLN : Hid (n = (l.set i so).length) := (HO4.out.set HI0.out so).1; clear hb4 hR4)
    | (at_builtin; refine wpList_append_fits _ rfl (.tmp 35) (.tmp 37) 68 rfl base 156 i0 6 Tryz.underlying68 hi hz1 g n cap ((l.set i so).flatMap blCells) rfl HOW.out ⟨w4.heap.size, 0, none⟩ 1 1 (blCells b) rfl rfl HCE.out (bl_one b) (by omega) ?_; intro w9 ho hg; have HP : Hid (EnlPost base w g n cap (l.set i so ++ [b]) (.returned (.slice (some ⟨g, 0, none⟩) (n + 1) cap)) w9) := ⟨rfl, OwnL.grown HLN.out ho, kept_grown HKP.out hg⟩; clear ho hg))
  go_ret
  exact HP.out
set_option maxHeartbeats 4000000 in
theorem enl_older (base g n cap i : Nat) (l : List Bl) (b o : Bl) (w : World) (h : OwnL base w g n cap l) (hc : n < cap) (h256 : cap ≤ 256) (hb : b.st = 4) (hf : findI l b.leb = i) (hi0 : l[i]? = some o) (hs : ¬ o.seq < b.seq) :
    Calls Tryz.prog 119 #[.slice (some ⟨g, 0, none⟩) n cap, blV b] w (EnlPost base w g n cap (l ++ [spoilt b])) := by
  obtain ⟨i0, hi, hz0, hz1, hz2⟩ := info_parts infoBl
  have e4 : (b.st == 4) = true := by simp [hb]
  have HO : Hid (OwnL base w g n cap l) := h
  have hin : i < n := by rw [h.1]; exact (List.getElem?_eq_some_iff.1 hi0).1
  have n0 : ¬ (i : Int) < 0 := by omega
  have n1 : (i : Int) < (n : Int) := by omega
  obtain ⟨W, hW⟩ : ∃ W, W = w.alloc (.cells #[.int .i64 b.st, .int .i64 b.cnt, .int .i64 b.leb, .int .i64 b.used, .int .u64 b.seq, .bool b.closed] 156) := ⟨_, rfl⟩
  have hR : Row W w.heap.size (blCells b) 156 := by rw [hW]; exact Row.new w (blCells b) _
  have hBW : Below w.heap.size w W := by rw [hW]; exact below_new w _
  have cF := find_any n cap l (some ⟨g, 0, none⟩) b.leb h.1 (by omega) W (h.later hBW).row
  rw [hf] at cF
  have a0 : W.cell? ⟨w.heap.size, 0, none⟩ = some (.int .i64 b.st) := hR.cell (i := 0) rfl
  have a2 : W.cell? ⟨w.heap.size, 2, none⟩ = some (.int .i64 b.leb) := hR.cell (i := 2) rfl
  have HR : Hid (Row W w.heap.size (blCells b) 156) := hR
  have HBW : Hid (Below w.heap.size w W) := hBW
  have HI0 : Hid (l[i]? = some o) := hi0
  have hgl := h.low.2
  have hgw : ¬ g = w.heap.size := by omega
  have hwg : ¬ w.heap.size = g := by omega
  have cS := fun X => spoilt_any b X
  obtain ⟨so, hso⟩ : ∃ so, so = spoilt b := ⟨_, rfl⟩
  simp only [← hso] at cS
  rw [← hso]
  unfold blV at cS
  clear h hb hf hR hBW hi0 hso
  unfold blV
  go_enter Tryz.func119, Tryz.ntmps119
  go_wp2_with fail
  rw [← hW]
  clear hW
  go_wp2_with (first
    | (go_at_call 77; refine cF.mono ?_; rintro e w2 ⟨rfl, hb2⟩; have hR2 := HR.out.later hb2; have d4 : w2.cell? ⟨w.heap.size, 4, none⟩ = some (.int .u64 b.seq) := hR2.cell (i := 4) rfl; have HB2 : Hid (Below w.heap.size w w2) := Below.after HBW.out hb2; have HR2 : Hid (Row w2 w.heap.size (blCells b) 156) := hR2; have HO2 : Hid (OwnL base w2 g n cap l) := HO.out.later HB2.out; obtain ⟨g0, g1, g2, g3, g4, g5⟩ : BlAt w2 g (i * 6) o := (by rcases HO2.out.row with e | ⟨b', off', e, hcs⟩; (have := HI0.out; rw [e] at this; simp at this); (cases e; have := hcs i o HI0.out; rw [Nat.zero_add] at this; exact this)); clear hb2 hR2))
  go_region
  have HO3 : Hid (OwnL base w2.drew g n cap l) := HO2.out
  have HR3 : Hid (Row w2.drew w.heap.size (blCells b) 156) := HR2.out
  have HB3 : Hid (Below w.heap.size w w2.drew) := HB2.out.drew
  have G3 : BlAt w2.drew g (i * 6) o := ⟨g0, g1, g2, g3, g4, g5⟩
  obtain ⟨w3, hw3⟩ : ∃ w3, w3 = w2.drew := ⟨_, rfl⟩
  rw [← hw3] at HO3 HR3 HB3 G3 ⊢
  clear hw3 g0 g1 g2 g3 g4 g5 HO2 HR2 HB2 d4
  clear G3
  have d0 : w3.cell? ⟨w.heap.size, 0, none⟩ = some (.int .i64 b.st) := HR3.out.cell (i := 0) rfl
  have d1 : w3.cell? ⟨w.heap.size, 1, none⟩ = some (.int .i64 b.cnt) := HR3.out.cell (i := 1) rfl
  have d2 : w3.cell? ⟨w.heap.size, 2, none⟩ = some (.int .i64 b.leb) := HR3.out.cell (i := 2) rfl
  have d3 : w3.cell? ⟨w.heap.size, 3, none⟩ = some (.int .i64 b.used) := HR3.out.cell (i := 3) rfl
  have d4 : w3.cell? ⟨w.heap.size, 4, none⟩ = some (.int .u64 b.seq) := HR3.out.cell (i := 4) rfl
  have d5 : w3.cell? ⟨w.heap.size, 5, none⟩ = some (.bool b.closed) := HR3.out.cell (i := 5) rfl
  go_wp2_with (first
    | (go_at_call 160; refine (cS _).mono ?_; rintro e w4 ⟨rfl, hb4⟩; have HO4 : Hid (OwnL base w4 g n cap l) := HO3.out.later hb4; have hR4 := HR3.out.later hb4; have HR4 : Hid (Row w4 w.heap.size (blCells b) 156) := hR4; have d0 : w4.cell? ⟨w.heap.size, 0, none⟩ = some (.int .i64 b.st) := hR4.cell (i := 0) rfl; have d1 : w4.cell? ⟨w.heap.size, 1, none⟩ = some (.int .i64 b.cnt) := hR4.cell (i := 1) rfl; have d2 : w4.cell? ⟨w.heap.size, 2, none⟩ = some (.int .i64 b.leb) := hR4.cell (i := 2) rfl; have d3 : w4.cell? ⟨w.heap.size, 3, none⟩ = some (.int .i64 b.used) := hR4.cell (i := 3) rfl; have d4 : w4.cell? ⟨w.heap.size, 4, none⟩ = some (.int .u64 b.seq) := hR4.cell (i := 4) rfl; have d5 : w4.cell? ⟨w.heap.size, 5, none⟩ = some (.bool b.closed) := hR4.cell (i := 5) rfl; obtain ⟨q0, q1, q2, q3, q4, q5⟩ : BlAt w4 g (i * 6) o := (by rcases HO4.out.row with e | ⟨b', off', e, hcs⟩; (have := HI0.out; rw [e] at this; simp at this); (cases e; have := hcs i o HI0.out; rw [Nat.zero_add] at this; exact this)); have fz : ∀ k, w4.frozen? ⟨w.heap.size, k, none⟩ = false := fun k => HR4.out.frozen k; have HB4 : Hid (Below w.heap.size w w4) := Below.after HB3.out hb4; have HOW : Hid ((((((((w4.setCell ⟨w.heap.size, 0, none⟩ (.int .i64 so.st)).setCell ⟨w.heap.size, 1, none⟩ (.int .i64 so.cnt)).setCell ⟨w.heap.size, 2, none⟩ (.int .i64 so.leb)).setCell ⟨w.heap.size, 3, none⟩ (.int .i64 so.used)).setCell ⟨w.heap.size, 4, none⟩ (.int .u64 so.seq)).setCell ⟨w.heap.size, 5, none⟩ (.bool so.closed)).alloc (.cells #[.int .i64 so.st, .int .i64 so.cnt, .int .i64 so.leb, .int .i64 so.used, .int .u64 so.seq, .bool so.closed] 156)).ownsRow base 156 6 (.slice (some ⟨g, 0, none⟩) n cap) n (l.flatMap blCells)) := ((HO4.out.same (six_other _ hgw _ _ _ _ _ _)).later (below_new _ _)).2; have HCE : Hid (∀ j u, (blCells so)[j]? = some u → (((((((w4.setCell ⟨w.heap.size, 0, none⟩ (.int .i64 so.st)).setCell ⟨w.heap.size, 1, none⟩ (.int .i64 so.cnt)).setCell ⟨w.heap.size, 2, none⟩ (.int .i64 so.leb)).setCell ⟨w.heap.size, 3, none⟩ (.int .i64 so.used)).setCell ⟨w.heap.size, 4, none⟩ (.int .u64 so.seq)).setCell ⟨w.heap.size, 5, none⟩ (.bool so.closed)).alloc (.cells #[.int .i64 so.st, .int .i64 so.cnt, .int .i64 so.leb, .int .i64 so.used, .int .u64 so.seq, .bool so.closed] 156)).cell? ((⟨w4.heap.size, 0, none⟩ : Addr).add j) = some u) := bl_newk _ so _ _ (by simp [World.setCell]); have HKP : Hid (Kept (fun k => k = g) w (((((((w4.setCell ⟨w.heap.size, 0, none⟩ (.int .i64 so.st)).setCell ⟨w.heap.size, 1, none⟩ (.int .i64 so.cnt)).setCell ⟨w.heap.size, 2, none⟩ (.int .i64 so.leb)).setCell ⟨w.heap.size, 3, none⟩ (.int .i64 so.used)).setCell ⟨w.heap.size, 4, none⟩ (.int .u64 so.seq)).setCell ⟨w.heap.size, 5, none⟩ (.bool so.closed)).alloc (.cells #[.int .i64 so.st, .int .i64 so.cnt, .int .i64 so.leb, .int .i64 so.used, .int .u64 so.seq, .bool so.closed] 156))) := (((((((Kept.of_below (S := fun k => k = g) HB4.out).setNew (Nat.le_refl _) _).setNew (Nat.le_refl _) _).setNew (Nat.le_refl _) _).setNew (Nat.le_refl _) _).setNew (Nat.le_refl _) _).setNew (Nat.le_refl _) _).alloc _; clear hb4 hR4)
    | (at_builtin; refine wpList_append_fits _ rfl (.tmp 35) (.tmp 37) 68 rfl base 156 i0 6 Tryz.underlying68 hi hz1 g n cap (l.flatMap blCells) rfl HOW.out ⟨w4.heap.size, 0, none⟩ 1 1 (blCells so) rfl rfl HCE.out (bl_one so) (by omega) ?_; intro w9 ho hg; have HP : Hid (EnlPost base w g n cap (l ++ [so]) (.returned (.slice (some ⟨g, 0, none⟩) (n + 1) cap)) w9) := ⟨rfl, OwnL.grown HO.out.1 ho, kept_grown HKP.out hg⟩; clear ho hg))
  go_ret
  exact HP.out
/-- enlisted, whatever the block. -/
theorem enl_any (base g n cap : Nat) (l : List Bl) (b : Bl) (w : World) (h : OwnL base w g n cap l) (hc : n < cap) (h256 : cap ≤ 256) :
    Calls Tryz.prog 119 #[.slice (some ⟨g, 0, none⟩) n cap, blV b] w (EnlPost base w g n cap (enlist l b)) := by
  unfold enlist
  by_cases hb : b.st = 4
  · rw [if_pos hb]
    rcases find_cases l b.leb with hf | ⟨i, o, hf, ho, _, _⟩
    · rw [if_pos (by rw [hf]; decide)]
      exact enl_first base g n cap l b w h hc h256 hb hf
    · rw [if_neg (by rw [hf]; omega), hf]
      simp only [Int.toNat_natCast, ho]
      by_cases hs : o.seq < b.seq
      · rw [if_pos hs]
        exact enl_newer base g n cap i l b o w h hc h256 hb hf ho hs
      · rw [if_neg hs]
        exact enl_older base g n cap i l b o w h hc h256 hb hf ho hs
  · rw [if_neg hb]
    exact enl_plain base g n cap l b w h hc hb
end Go.Proofs.YtkfecngkdlajgaaGreatDoor
namespace Go.Proofs.YtkfecngkdlajgaaGreatDoor
open Go.RowKit
set_option maxRecDepth 10000

theorem parseC_le {l : List Nat} {z : Nat} (h : Hd.parseC l = some z) : z ≤ 2147483647 := by
  unfold Hd.parseC at h
  split at h
  · rename_i hh
    cases h
    exact hh.2
  · cases h
theorem sights_count (v : Vw) : ∀ s ∈ sightsV v, 0 ≤ s.count ∧ s.count ≤ 2147483647 := by
  intro s hs
  obtain ⟨k, _, rfl⟩ := List.mem_map.1 hs
  show 0 ≤ (((Hd.parseC (v.rd k 0).1).getD 0 : Nat) : Int) ∧ (((Hd.parseC (v.rd k 0).1).getD 0 : Nat) : Int) ≤ 2147483647
  rcases h : Hd.parseC (v.rd k 0).1 with _ | z
  · decide
  · have := parseC_le h
    simp only [Option.getD_some]
    omega
theorem enlist_length (l : List Bl) (b : Bl) : (enlist l b).length = l.length + 1 := by
  unfold enlist
  split
  · split
    · simp
    · split
      · simp
      · split <;> simp
  · simp
/-- The blocks of a list of sights. -/
def blocksS (l : List Sg) (mean : Int) : List Bl := (l.map (fun s => s.block mean)).foldl enlist []
theorem foldl_enlist_length : ∀ (l m : List Bl), (l.foldl enlist m).length = m.length + l.length
  | [], m => by simp
  | b :: l, m => by rw [List.foldl_cons, foldl_enlist_length l, enlist_length, List.length_cons]; omega
theorem blocksS_length (l : List Sg) (mean : Int) : (blocksS l mean).length = l.length := by
  unfold blocksS; rw [foldl_enlist_length]; simp
theorem blocksS_snoc (l : List Sg) (s : Sg) (mean : Int) : blocksS (l ++ [s]) mean = enlist (blocksS l mean) (s.block mean) := by simp [blocksS]
/-- What a scan tells. -/
noncomputable def scanV (v : Vw) : List Bl := blocksS (sightsV v) (meanS (sightsV v))
theorem scanV_length (v : Vw) : (scanV v).length = v.gb := by unfold scanV; rw [blocksS_length, sightsV_length]

/-- What Scan leaves: the blocks, in new memory. -/
def ScanPost (w : World) (gb : Nat) (l : List Bl) (e : Ending) (w' : World) : Prop := ∃ g cap, e = .returned (.tuple #[.slice (some ⟨g, 0, none⟩) gb cap, .int .i64 0]) ∧ OwnL w.heap.size w' g gb cap l ∧ Below w.heap.size w w'
/-- What lies on while the blocks are listed. -/
structure Sc (w wr : World) (a : Option Addr) (sv : List Sg) (g k cap : Nat) (l : List Bl) : Prop where
  own : OwnL w.heap.size wr g k cap l
  row : SRow wr a sv
  ne : ∀ b o, a = some ⟨b, o, none⟩ → b ≠ g
  bel : Below w.heap.size w wr
theorem Sc.later {w wr wr' : World} {a : Option Addr} {sv : List Sg} {g k cap : Nat} {l : List Bl} (h : Sc w wr a sv g k cap l) (hb : Below wr.heap.size wr wr') : Sc w wr' a sv g k cap l :=
  ⟨h.own.later hb, h.row.later hb, h.ne, Below.after h.bel hb⟩
theorem Sc.step {w wr wr' : World} {a : Option Addr} {sv : List Sg} {g k cap : Nat} {l l' : List Bl} (h : Sc w wr a sv g k cap l) (ho : OwnL w.heap.size wr' g (k + 1) cap l') (hk : Kept (fun k => k = g) wr wr') : Sc w wr' a sv g (k + 1) cap l' :=
  ⟨ho, h.row.kept hk (fun b o e => h.ne b o e), h.ne, h.bel.trans (hk.below h.bel.size (fun j e => by rw [e]; exact h.own.low.1))⟩
theorem Sc.at {w wr : World} {a : Option Addr} {sv : List Sg} {g k cap i : Nat} {l : List Bl} {s : Sg} (h : Sc w wr a sv g k cap l) (hs : sv[i]? = some s) : ∃ b off, a = some ⟨b, off, none⟩ ∧ SgAt wr b (off + i * 10) s := by
  rcases h.row with e | ⟨b, off, e, _, hc⟩
  · subst e; simp at hs
  · exact ⟨b, off, e, hc i s hs⟩

set_option maxHeartbeats 8000000 in
theorem scan_on {base : Nat} {w : World} {c : CS} (h : Lies base w c) (p : Nat) (hp : c.p = p) (hon : c.on = true) (hg : Hd.Glb w) :
    Calls Tryz.prog 83 #[.pointer (some ⟨p, 0, none⟩)] w (ScanPost w c.gb (scanV c.vw)) := by
  obtain ⟨i0, hi, hz0, hz1, hz2⟩ := info_parts infoBl
  have cO : Calls Tryz.prog 111 #[.pointer (some ⟨p, 0, none⟩)] w fun e w' => e = .returned (.bool c.on) ∧ w = w' := by subst hp; exact on_any h
  rw [hon] at cO
  have hgb := h.good.gs
  obtain ⟨W, hW⟩ : ∃ W, W = w.alloc (.cells #[.pointer (some ⟨p, 0, none⟩)] 31) := ⟨_, rfl⟩
  have hBW : Below w.heap.size w W := by rw [hW]; exact below_new w _
  have cC := collectS_any w.heap.size base p c hp W (h.later hBW) (hg.later hBW) (by rw [hW]; exact (Row.new w [_] _).cell (i := 0) rfl)
  have cS := sights_any p w
  rw [← hW] at cS
  have HLn : Hid ((sightsV c.vw).length = c.gb) := sightsV_length c.vw
  have HCn : Hid (∀ s ∈ sightsV c.vw, 0 ≤ s.count ∧ s.count ≤ 2147483647) := sights_count c.vw
  have HSc : Hid (scanV c.vw = blocksS (sightsV c.vw) (meanS (sightsV c.vw))) := rfl
  obtain ⟨sv, hsv⟩ : ∃ sv, sv = sightsV c.vw := ⟨_, rfl⟩
  rw [← hsv] at cC HLn HCn HSc
  obtain ⟨gb, hgb2⟩ : ∃ g, g = c.gb := ⟨_, rfl⟩
  rw [← hgb2] at hgb HLn ⊢
  obtain ⟨res, hres⟩ : ∃ r, r = scanV c.vw := ⟨_, rfl⟩
  rw [← hres] at HSc ⊢
  have cM := fun (X : World) (a : Option Addr) (cap : Nat) (hr : SRow X a sv) => mean_any a gb cap sv X HLn.out.symm (by omega) HCn.out hr
  obtain ⟨mn, hmn⟩ : ∃ m, m = meanS sv := ⟨_, rfl⟩
  simp only [← hmn] at cM
  rw [← hmn] at HSc
  have HBW : Hid (Below w.heap.size w W) := hBW
  clear h hg hsv hgb2 hres hmn hW hBW hon
  go_enter Tryz.func83, Tryz.ntmps83
  go_wp2_with (first
    | (go_at_call 111; refine cO.mono ?_; rintro e w' ⟨rfl, rfl⟩)
    | (go_at_call 117; refine cS.mono ?_; rintro e w' ⟨rfl, rfl⟩)
    | (go_at_call 116; refine cC.mono ?_; rintro e w1 ⟨a, cap, rfl, hr1, hlow, hle, hmx, hb1⟩; have HB1 : Hid (Below w.heap.size w w1) := Below.after HBW.out hb1; have HR1 : Hid (SRow w1 a sv) := hr1; have hlen := HLn.out; rw [hlen] at hle ⊢; clear hlen hr1 hb1)
    | (go_at_call 118; refine (cM _ _ _ HR1.out).mono ?_; rintro e w2 ⟨rfl, hb2⟩; have HB2 : Hid (Below w.heap.size w w2) := Below.after HB1.out hb2; have HR2 : Hid (SRow w2 a sv) := HR1.out.later hb2; clear hb2)
    | (at_make; refine wpList_make_own _ rfl _ _ 68 rfl w.heap.size 156 i0 (.agg #[.int .i64 0, .int .i64 0, .int .i64 0, .int .i64 0, .int .u64 0, .bool false]) 6 Tryz.underlying68 hi hz0 hz1 _ _ _ gb rfl rfl rfl (by rw [hz2]; omega) (by unfold maxLen; omega) HB2.out.size ?_; intro w3 hown hgrow))
  obtain ⟨g, hgd⟩ : ∃ g, g = w2.heap.size := ⟨_, rfl⟩
  have HS0 : Hid (Sc w w3 a sv g 0 gb []) := by
    have hb3 : Below w2.heap.size w2 w3 := (Below.refl _ _).grown hgrow (Nat.le_refl _) (fun k hk => by cases hk)
    refine ⟨⟨rfl, by rw [hgd]; exact hown⟩, HR2.out.later hb3, fun b o e => ?_, Below.after HB2.out hb3⟩
    rcases HR2.out with e2 | ⟨b', o', e2, hl, _⟩
    · have := HLn.out
      rw [e2] at this
      simp at this
      omega
    · rw [e] at e2
      cases e2
      omega
  rw [← hgd]
  clear hown hgrow hgd HR2 HB2 HR1 HB1 HBW cO cS cC cM
  go_loopw [6, 26] (fun s i wr => ∃ k : Nat, i = .int .i64 (k : Int) ∧ k ≤ gb ∧ s = .slice (some ⟨g, 0, none⟩) k gb ∧ Hid (Sc w wr a sv g k gb (blocksS (sv.take k) mn))) (fun _ i _ => gb - (intOf i).toNat)
  case atStart => exact ⟨0, rfl, by omega, rfl, by show Sc _ _ _ _ _ _ _ _; simpa [blocksS] using HS0.out⟩
  case round =>
    clear HS0
    obtain ⟨k, rfl, hk, rfl, HS⟩ := hrel
    by_cases hlt : k < gb
    · obtain ⟨x, hx⟩ : ∃ x, sv[k]? = some x := ⟨_, List.getElem?_eq_getElem (by rw [HLn.out]; exact hlt)⟩
      obtain ⟨b, off, rfl, g0, g1, g2, g3, g4, g5, g6, g7, g8, g9⟩ := HS.out.at hx
      have HT : Hid (blocksS (sv.take (k + 1)) mn = enlist (blocksS (sv.take k) mn) (x.block mn)) := by show _ = _; rw [take_snoc hx, blocksS_snoc]
      have hbw : b < wr.heap.size := World.block_lt_of_cell? wr _ g0
      have HS1 : Hid (∀ o, Sc w (wr.alloc o) (some ⟨b, off, none⟩) sv g k gb (blocksS (sv.take k) mn)) := fun o => HS.out.later (below_new _ _)
      have cB := fun X => block_any x mn X
      obtain ⟨l0, hl0⟩ : ∃ l, l = blocksS (sv.take k) mn := ⟨_, rfl⟩
      obtain ⟨l1, hl1⟩ : ∃ l, l = blocksS (sv.take (k + 1)) mn := ⟨_, rfl⟩
      rw [← hl0] at HS1 HT
      rw [← hl1] at HT
      have HL1 : Hid (l1 = blocksS (sv.take (k + 1)) mn) := hl1
      have cE := fun X (hX : OwnL w.heap.size X g k gb l0) => enl_any w.heap.size g k gb l0 (x.block mn) X hX hlt (by omega)
      rw [← HT.out] at cE
      obtain ⟨bl, hbl⟩ : ∃ bl, bl = blV (x.block mn) := ⟨_, rfl⟩
      simp only [← hbl] at cB cE
      unfold sgV at cB
      clear hx hl0 hl1 HT HS hbl
      go_wp2_with (first
        | (go_at_call 120; refine (cB _).mono ?_; rintro e w5 ⟨rfl, hb5⟩; have HS5 : Hid (Sc w w5 (some ⟨b, off, none⟩) sv g k gb l0) := (HS1.out _).later hb5; clear hb5)
        | (go_at_call 119; refine (cE _ HS5.out.own).mono ?_; rintro e w6 ⟨rfl, ho6, hk6⟩; have HS6 : Hid (Sc w w6 (some ⟨b, off, none⟩) sv g (k + 1) gb l1) := HS5.out.step ho6 hk6; clear ho6 hk6))
      go_roundw
      case rel => exact ⟨k + 1, by go_num, by omega, rfl, by rw [← HL1.out]; exact HS6.out⟩
      case measure => simp [intOf]; omega
    · have hkg : k = gb := by omega
      subst hkg
      go_wp2
      go_ret2
      have h1 := HS.out.own
      rw [List.take_of_length_le (by rw [HLn.out]; exact Nat.le_refl _), ← HSc.out] at h1
      exact ⟨g, k, rfl, h1, HS.out.bel⟩
end Go.Proofs.YtkfecngkdlajgaaGreatDoor
