/-
  SpaceGone: whatever nodes there are, and whatever group of nodes that only takes out, and whatever limit: they cost no more behind it than ahead, Room says OK, and the chapter's examples come out. No condition but the reach that every statement has.
-/
import Derived.Test.YtplhlbajgijohaaPF
import Derived.Laws.OwnMore
namespace Go.Proofs.Ytplhlbajgijohaa.spaceGone
open Go.ChangeShapes Go.WideShapes Go.ChangeAt Go.RowKit Go.Deep Go.Proofs.Ytplhlbajgijohaa
set_option maxRecDepth 10000

/-- A node that is taken out. -/
def tg (x : Nw) : Nw := ⟨x.k, x.v, true⟩
theorem inL_gone (m : List Nw) {n : Nw} (h : n.g = true) : List.Sublist (inL m n) m := by
  unfold inL
  rw [h]
  simp only [if_true, List.append_nil]
  exact List.filter_sublist
theorem doneL_gone : ∀ (g m : List Nw), (∀ x ∈ g, x.g = true) → (doneL m g).Sublist m
  | [], _, _ => List.Sublist.refl _
  | n :: g, m, h => (doneL_gone g (inL m n) (fun x hx => h x (List.mem_cons_of_mem _ hx))).trans (inL_gone m (h n (List.mem_cons_self ..)))
theorem sum_sub {a b : List Nat} (h : a.Sublist b) : a.sum ≤ b.sum := by
  induction h with
  | slnil => exact Nat.le_refl _
  | cons x _ ih => simp only [List.sum_cons]; omega
  | cons_cons x _ ih => simp only [List.sum_cons]; omega
theorem aft_gone (l g : List Nw) (h : ∀ x ∈ g, x.g = true) : aft (l ++ g) ≤ aft l := by
  unfold aft
  rw [doneL_app]
  have := sum_sub ((doneL_gone g (doneL [] l) h).map Nw.c)
  omega
theorem flat_set : ∀ (l : List Nw) (i : Nat) (y : Nw), l[i]? = some y → (l.flatMap ndv).set (i * 3 + 2) (.bool true) = (l.set i (tg y)).flatMap ndv
  | [], _, _, h => by simp at h
  | x :: l, 0, y, h => by simp at h; subst h; simp [ndv, tg]
  | x :: l, i + 1, y, h => by
    have ih := flat_set l i y (by simpa using h)
    rw [List.set_cons_succ, List.flatMap_cons, List.flatMap_cons, List.set_append_right _ _ (by rw [ndv_len]; omega), ndv_len, show (i + 1) * 3 + 2 - 3 = i * 3 + 2 by omega, ih]
theorem gone_step {g : List Nw} {i : Nat} {y : Nw} (h : g[i]? = some y) : ((g.take i).map tg ++ g.drop i).set i (tg y) = (g.take (i + 1)).map tg ++ g.drop (i + 1) ∧ ((g.take i).map tg ++ g.drop i)[i]? = some y := by
  obtain ⟨hlt, he⟩ := List.getElem?_eq_some_iff.1 h
  have e1 : ((g.take i).map tg).length = i := by rw [List.length_map, List.length_take]; omega
  have e2 : g.drop i = y :: g.drop (i + 1) := by rw [← he]; exact List.drop_eq_getElem_cons hlt
  have e3 : g.take (i + 1) = g.take i ++ [y] := by rw [List.take_succ_eq_append_getElem hlt, he]
  constructor
  · rw [List.set_append_right _ _ (by omega), e1, Nat.sub_self, e2, List.set_cons_zero, e3, List.map_append]
    simp
  · rw [List.getElem?_append_right (by omega), e1, Nat.sub_self, e2]
    rfl

set_option maxHeartbeats 8000000 in
theorem walk (a : Option Addr) (len cap : Nat) (l : List Nw) (a2 : Option Addr) (len2 cap2 : Nat) (g : List Nw) (limit : Int) (w : World) (hl : NArg w a len cap l) (hs : cap * 40 ≤ 140737488351232) (hg : NArg w a2 len2 cap2 g) (hs2 : cap2 * 40 ≤ 140737488351232) (_ : (Lit.int .i64 limit).wf = true) (_ : a = none → len = 0 ∧ cap = 0) (hz2 : a2 = none → len2 = 0 ∧ cap2 = 0) :
    Calls Try.prog 7 #[.slice a len cap, .slice a2 len2 cap2, .int .i64 limit] w fun e w' => e = .returned (.bool true) ∧ Below w.heap.size w w' := by
  have HG : Hid (NArg w a2 len2 cap2 g) := hg
  have HA : Hid (NArg w a len cap l) := hl
  have hlen := hl.le
  have hlen2 := hg.le
  have HN : Hid (a2 = none → len2 = 0 ∧ cap2 = 0) := hz2
  have HKG : Hid (okK (g.map tg)) := ⟨fun y hy => by obtain ⟨x, hx, rfl⟩ := List.mem_map.1 hy; exact hg.keys x hx, fun y hy => by obtain ⟨x, hx, rfl⟩ := List.mem_map.1 hy; exact hg.vals x hx⟩
  have hle := aft_gone l (g.map tg) (fun x hx => by obtain ⟨y, _, rfl⟩ := List.mem_map.1 hx; rfl)
  have hroom : roomF l (g.map tg) limit = 0 := by unfold roomF; rw [if_neg (by omega)]
  have hm63 : (0 : Nat) + len2 ≤ maxLen := by unfold maxLen; omega
  have hb : (0 + len2) * 40 ≤ 140737488355328 := by omega
  have k11 := fun W => alive_any W
  clear hl hg hz2
  go_enter Try.func7, Try.ntmps7
  go_wp2_with (at_builtin; refine wpList_append_nws rfl (.tmp 11) (.tmp 12) rfl w.heap.size (.slice (some ⟨w.heap.size, 0, none⟩) 0 0) 0 [] rfl (World.ownsRow_lit (e := 40) (size := 3) w #[] 0 (Nat.le_refl _) (by decide) rfl) a2 len2 cap2 g rfl HG.out.len_eq (HG.out.row.later (below_new _ _)) HN.out hm63 hb (by simp) ?_; intro v2 w2 hown2 hgrow2; rw [Nat.zero_add, List.nil_append] at hown2; have HB2 : Hid (Below w.heap.size w w2) := (below_new w _).grown hgrow2 (by simp) (fun k hk => by simp [Value.ownBlock] at hk; omega); obtain ⟨na, nc, rfl, hf⟩ := ON.row HG.out.len_eq hown2; have HO2 : Hid (ON w2 w.heap.size (.slice na len2 nc) len2 g) := hown2; clear hf hown2 hgrow2)
  go_loopg [8] len2 (fun kx s8 wr => ∃ (i : Nat), i + kx = len2 ∧ s8 = .int .i64 (i : Nat) ∧ Hid (ON wr w.heap.size (.slice na len2 nc) len2 ((g.take i).map tg ++ g.drop i) ∧ Below w.heap.size w wr))
  case atStart => exact ⟨0, by omega, rfl, (⟨HO2.out, HB2.out⟩ : _ ∧ _)⟩
  case round =>
    obtain ⟨i, hi, rfl, I⟩ := hrel
    by_cases hlt : i < len2
    · obtain ⟨y, hy⟩ : ∃ y, g[i]? = some y := ⟨_, List.getElem?_eq_getElem (by have := HG.out.len_eq; omega)⟩
      obtain ⟨e1, e2⟩ := gone_step hy
      obtain ⟨gb, hna⟩ : ∃ gb, na = some ⟨gb, 0, none⟩ := by
        rcases I.out.1.2 with ⟨q, _⟩ | ⟨gb, cp, cur, q, _⟩
        · cases q; omega
        · cases q; exact ⟨gb, rfl⟩
      subst hna
      have hnc : len2 ≤ nc := by
        obtain ⟨_, _, q, _, _, h1, _⟩ := ON.row (by rw [List.length_append, List.length_map, List.length_take, List.length_drop]; have := HG.out.len_eq; omega) I.out.1
        cases q; exact h1
      have HST := World.ownsRow.stored I.out.1 (i * 3 + 2) (.bool true)
      have c2 : wr.cell? ⟨gb, i * 3 + 2, none⟩ = some (.bool y.g) := by
        rw [World.ownsRow.cellAt I.out.1 (i * 3 + 2) (by omega), flat_get ndv 3 ndv_len 2 (by omega) _ i y e2]
        rfl
      have f2 := World.ownsRow.frozenAt I.out.1 (i * 3 + 2)
      have hgb : w.heap.size ≤ gb := (World.ownsRow.lt I.out.1 gb rfl).1
      have HE : Hid (ON (wr.setCell ⟨gb, i * 3 + 2, none⟩ (.bool true)) w.heap.size (.slice (some ⟨gb, 0, none⟩) len2 nc) len2 ((g.take (i + 1)).map tg ++ g.drop (i + 1)) ∧ Below w.heap.size w (wr.setCell ⟨gb, i * 3 + 2, none⟩ (.bool true))) := by
        have h := HST
        rw [flat_set _ i y e2, e1] at h
        have hb2 : Below w.heap.size w (wr.setCell ⟨gb, i * 3 + 2, none⟩ (.bool true)) := I.out.2.setCell (by show _ ≤ gb; exact hgb) _
        exact (⟨h.1, hb2⟩ : _ ∧ _)
      have hi1 : (i : Int) < (len2 : Int) := by omega
      clear I HST e1 e2 hy
      go_wp2
      go_roundg (len2 - (i + 1))
      case measure => omega
      case rel => exact ⟨i + 1, by omega, by go_num, HE.out⟩
    · have hkl : i = len2 := by omega
      subst hkl
      have HF : Hid (ON wr w.heap.size (.slice na i nc) i (g.map tg) ∧ Below w.heap.size w wr) := by
        have := I.out
        rw [HG.out.len_eq, List.take_length, List.drop_eq_nil_of_le (Nat.le_refl _), List.append_nil, ← HG.out.len_eq] at this
        exact this
      clear I
      obtain ⟨_, _, q, hN⟩ := ON.narg (by rw [List.length_map]; exact HG.out.len_eq) HF.out.1 HKG.out
      cases q
      have kc := fun W (h : Below wr.heap.size wr W) => changeC_any a len cap l na i nc (g.map tg) W (HA.out.later (Below.after HF.out.2 h)) (hN.later h) (by omega) (by omega)
      have kr := fun W (h : Below wr.heap.size wr W) => roomC_any a len cap l na i nc (g.map tg) limit W (HA.out.later (Below.after HF.out.2 h)) (hN.later h) (by omega) (by omega)
      rw [hroom] at kr
      generalize aft l = A at *
      generalize aft (l ++ g.map tg) = B at *
      have hle2 : (B : Int) ≤ (A : Int) := by omega
      clear hN hroom
      go_wp2_with (first
        | (go_at_call 28; refine (kc _ (Below.refl _ _)).mono ?_; rintro e w3 ⟨rfl, hb⟩; have B3 : Hid (Below wr.heap.size wr w3) := hb; clear hb kc)
        | (go_at_call 30; refine (kr _ B3.out).mono ?_; rintro e w4 ⟨rfl, hb⟩; have B4 : Hid (Below wr.heap.size wr w4) := Below.after B3.out hb; clear hb kr)
        | (go_at_call 17; refine (k11 _).mono ?_; rintro e w5 ⟨rfl, hb⟩; have B5 : Hid (Below wr.heap.size wr w5) := Below.after B4.out hb; clear hb))
      go_ret
      exact ⟨rfl, Below.after HF.out.2 B5.out⟩

set_option maxRecDepth 100000 in
theorem lifted (os : Os) (started : os.Started) (H : Type) (enc : TypeId × Value → H) :
    ReturnsInHanded {} Try.checked os 7 .any (Rows.spaceGoneSpec.pre6 enc Try.prog Try.f7 Rows.spaceGoneRow.domain false) (Rows.spaceGoneSpec.post enc Try.prog Try.f7 false true false false) := by
  refine returnsInHanded_of_change_sized (C := Try.checked) own started (by kernel_rfl) Try.func7
    (ChangeSpec.witness6 (enc := enc) (C := Try.checked) false ⟨#[], #[.slice none 0 0, .slice none 0 0, .int .i64 0], []⟩ 8 (by kernel_rfl) (by kernel_rfl) (by kernel_rfl) (by kernel_rfl)) ?_
  intro W base args ds gs before hval0 hW hcnd hsz0 _
  have hval : ∀ (j : Nat) t v, Try.f7.params[j]? = some t → args[j]? = some v → Value.okWide Try.prog W .any base t v := hval0
  have hsz : (DataW.weightsEach Try.prog (Try.f7.params.toList ++ Rows.spaceGoneSpec.plain.varTypes Try.prog) (ds ++ gs)).all (· ≤ reachBytes) = true := hsz0
  have hW' := hW
  obtain ⟨p, q, hA0, hV, rfl, hfz, hnd⟩ := hW
  have hA : DataW.TrodAll enc Try.prog W 0 (fun _ => true) true Try.f7.params.toList args.toList ds p := hA0
  rw [Try.params7] at hA hval hsz
  obtain ⟨v0, vs0, d0, ds0, p0, q0, hargs, rfl, rfl, h0, r0⟩ := trodAll_cons hA
  obtain ⟨v1, vs1, d1, ds1, p1, q1, rfl, rfl, rfl, h1, r1⟩ := trodAll_cons r0
  obtain ⟨v2, vs2, d2, ds2, p2, q2, rfl, rfl, rfl, h2, r2⟩ := trodAll_cons r1
  obtain ⟨rfl, rfl, rfl⟩ := trodAll_nil r2
  obtain rfl : args = #[v0, v1, v2] := by cases args; simp_all
  obtain ⟨rfl, rfl⟩ := trodVars_none hV
  obtain ⟨a0, len0, cap0, rfl⟩ := okWide_slice Try.underlying27 (hval 0 27 v0 rfl rfl)
  have k0 := h0
  have lt0 : ∀ x ∈ p0, x.block < W.heap.size := by obtain ⟨m, hm⟩ := k0; exact DataW.trod_lt m _ _ _ hm
  obtain ⟨l0, w0, s0⟩ : ∃ l, NArg W a0 len0 cap0 l ∧ cap0 * 40 ≤ 140737488351232 := by
    obtain ⟨fuel, hf⟩ := h0
    obtain ⟨l, hl⟩ := narg_open hf
    exact ⟨l, narg_sized hl hsz (j := 0) rfl rfl⟩
  have z0 : a0 = none → len0 = 0 ∧ cap0 = 0 := by
    obtain ⟨fuel, hf⟩ := h0
    exact narg_nil hf
  obtain ⟨a1, len1, cap1, rfl⟩ := okWide_slice Try.underlying27 (hval 1 27 v1 rfl rfl)
  have k1 := h1
  have lt1 : ∀ x ∈ p1, x.block < W.heap.size := by obtain ⟨m, hm⟩ := k1; exact DataW.trod_lt m _ _ _ hm
  obtain ⟨l1, w1, s1⟩ : ∃ l, NArg W a1 len1 cap1 l ∧ cap1 * 40 ≤ 140737488351232 := by
    obtain ⟨fuel, hf⟩ := h1
    obtain ⟨l, hl⟩ := narg_open hf
    exact ⟨l, narg_sized hl hsz (j := 1) rfl rfl⟩
  have z1 : a1 = none → len1 = 0 ∧ cap1 = 0 := by
    obtain ⟨fuel, hf⟩ := h1
    exact narg_nil hf
  obtain ⟨a2, rfl, rfl, rfl, w2⟩ := open_int Try.underlying3 (hval 2 3 v2 rfl rfl) h2
  clear hA0 hval0
  refine (walk a0 len0 cap0 l0 a1 len1 cap1 l1 a2 W w0 s0 w1 s1 w2 z0 z1).mono fun e W' ⟨he, bel⟩ => ?_
  subst he
  exact ⟨_, rfl, _, _, _, [], _, [], hW', trodAll_mk1 (shut_bool Try.underlying4 _), (trodAll_cons_mk (Below.trod laidOut (by kernel_rfl) (of_decide_eq_true (by kernel_rfl)) k0 bel lt0) (trodAll_cons_mk (Below.trod laidOut (by kernel_rfl) (of_decide_eq_true (by kernel_rfl)) k1 bel lt1) (trodAll_cons_mk (shut_int Try.underlying3 w2) trodAll_mk0))), rfl, bel.frame _, fun h => by cases h⟩

theorem over : Rows.spaceGoneRow.holds Try.pinned (OpenSpec.ofChange Rows.spaceGoneSpec) :=
  OpenClaim.holds_of_wide 7 Try.f7 rfl rfl rfl rfl rfl rfl rfl ⟨rfl, rfl, rfl, rfl, rfl⟩ rfl rfl rfl rfl rfl (by kernel_rfl) Try.func7 (by kernel_rfl)
    (of_decide_eq_true (by kernel_rfl)) (by unfold Func.isWrapper; first | (rw [if_pos (by decide +kernel)]; kernel_rfl) | (rw [if_neg (by decide +kernel)]; exact ⟨rfl, rfl⟩))
    (fun os started H enc _ => lifted os started H enc)
end Go.Proofs.Ytplhlbajgijohaa.spaceGone

namespace Go.Proofs.Ytplhlbajgijohaa
theorem spaceGone_holds : Rows.SpaceGoneSaid := spaceGone.over
#print axioms spaceGone_holds
end Go.Proofs.Ytplhlbajgijohaa
