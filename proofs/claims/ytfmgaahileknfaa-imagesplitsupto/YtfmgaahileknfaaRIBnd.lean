/-
  What the document's Levels and Bound answer.
-/
import Derived.Test.YtfmgaahileknfaaRISpl
import Derived.Test.YtfmgaahileknfaaRIPack
namespace Go.Proofs.Ytfmgaahileknfaa
open Go.RowKit M
set_option maxRecDepth 10000

set_option maxHeartbeats 2000000 in
theorem rlevels_any (n : Int) (hn : -9223372036854775808 ≤ n ∧ n ≤ 9223372036854775807) (w : World) :
    Calls Try.prog 10 #[.int .i64 n] w fun e w' => e = .returned (.int .i64 (levZ n : Nat)) ∧ w = w' := by
  obtain ⟨hn1, hn2⟩ := hn
  unfold levZ
  by_cases h : n < 1
  · rw [if_pos h]
    go_enter Try.func10, Try.ntmps10
    go_wp2
    go_ret
    exact ⟨rfl, rfl⟩
  · rw [if_neg h]
    obtain ⟨N, rfl⟩ : ∃ N : Nat, n = (N : Int) := ⟨n.toNat, by omega⟩
    rw [Int.toNat_natCast]
    have HLe : Hid (lev N ≤ N) := lev_le N (by omega)
    obtain ⟨R, hR⟩ : ∃ R, R = lev N := ⟨_, rfl⟩
    have HR : Hid (R = lev N) := hR
    rw [← hR] at HLe ⊢
    clear hR hn1
    go_enter Try.func10, Try.ntmps10
    go_wp2
    go_loopg [0, 3] N (fun kx s0 s3 wr => ∃ (m k : Nat), m = kx ∧ 1 ≤ m ∧ m ≤ N ∧ s0 = .int .i64 (m : Nat) ∧ s3 = .int .i64 (k : Nat) ∧ wr = w ∧ Hid (lev m + k = R + 1))
    case atStart => exact ⟨N, 1, rfl, by omega, by omega, rfl, rfl, rfl, by show _ = _; rw [HR.out]⟩
    case round =>
      obtain ⟨m, k, rfl, hm, hmN, rfl, rfl, rfl, I⟩ := hrel
      by_cases hlt : 8 < m
      · have HS : Hid (lev (prt m 8) + (k + 1) = R + 1) := by have := I.out; rw [lev_more hlt] at this; show _ = _; omega
        have h1 : prt m 8 < m := prt_lt (by decide) (by omega)
        have h2 : 1 ≤ prt m 8 := prt_pos (by decide) (by omega)
        have hk : (k : Int) + 1 < 9223372036854775808 := by have := HS.out; have := HLe.out; have := lev_pos (prt m 8); omega
        have hk0 : (0 : Int) ≤ (k : Int) := by omega
        have hm8 : (8 : Int) < (m : Int) := by omega
        obtain ⟨q, hq⟩ : ∃ q, q = m / 8 := ⟨_, rfl⟩
        obtain ⟨r, hr⟩ : ∃ r, r = m % 8 := ⟨_, rfl⟩
        have hd1 : (m : Int).tdiv 8 = (q : Int) := by rw [Int.tdiv_eq_ediv_of_nonneg (by omega)]; omega
        have hd2 : (m : Int).tmod 8 = (r : Int) := by rw [Int.tmod_eq_emod_of_nonneg (by omega)]; omega
        have hp : prt m 8 = if r = 0 then q else q + 1 := by rw [hq, hr]; rfl
        rw [hp] at HS h1 h2
        have hq63 : (q : Int) + 1 < 9223372036854775808 := by omega
        by_cases hz : r = 0
        · rw [if_pos hz] at HS h1 h2
          have HP : Hid (q < m ∧ 1 ≤ q ∧ q ≤ N) := ⟨h1, h2, by omega⟩
          subst hz
          clear hp h hmN hm hk0 h1 h2 hlt hq hr
          go_wp2
          go_roundg q
          case measure => exact HP.out.1
          case rel => exact ⟨q, k + 1, rfl, HP.out.2.1, HP.out.2.2, by go_num, by go_num, rfl, HS.out⟩
        · rw [if_neg hz] at HS h1 h2
          have HP : Hid (q + 1 < m ∧ 1 ≤ q + 1 ∧ q + 1 ≤ N) := ⟨h1, h2, by omega⟩
          have hz2 : (0 : Int) < (r : Int) := by omega
          clear hp h hmN hm hk0 h1 h2 hlt hq hr hz
          obtain ⟨R8, hR8⟩ : ∃ R8 : Int, R8 = (r : Int) := ⟨_, rfl⟩
          rw [← hR8] at hd2 hz2
          clear hR8
          go_wp2
          go_roundg (q + 1)
          case measure => exact HP.out.1
          case rel => exact ⟨q + 1, k + 1, rfl, HP.out.2.1, HP.out.2.2, by go_num, by go_num, rfl, HS.out⟩
      · have HS : Hid (k = R) := by have := I.out; rw [lev_le8 (by omega)] at this; show _ = _; omega
        go_wp2
        go_ret
        exact ⟨ret_int (by rw [HS.out]), rfl⟩

theorem rises_weak : ∀ {l : List St} {x : K}, rises x l = true → rises ⟨#[]⟩ l = true
  | [], _, _ => rfl
  | s :: l, x, h => by
    simp only [rises, fol, Bool.and_eq_true, decide_eq_true_eq] at h ⊢
    obtain ⟨⟨⟨h1, h2⟩, h3⟩, h4⟩ := h
    exact ⟨⟨⟨by rw [klt_empty, decide_eq_true (klt_pos h1)], h2⟩, h3⟩, h4⟩
theorem rises_mono {x x' : K} (hx : klt x x' = true) : ∀ {l : List St}, rises x' l = true → rises x l = true
  | [], _ => rfl
  | s :: l, h => by
    simp only [rises, fol, Bool.and_eq_true] at h ⊢
    obtain ⟨⟨⟨h1, h2⟩, h3⟩, h4⟩ := h
    exact ⟨⟨⟨klt_trans hx h1, h2⟩, h3⟩, h4⟩
theorem rises_skip : ∀ {a b : List St} {x : K}, rises x (a ++ b) = true → rises x b = true
  | [], _, _, h => h
  | s :: a, b, x, h => by
    rw [List.cons_append] at h
    simp only [rises, fol, Bool.and_eq_true] at h
    obtain ⟨⟨⟨h1, _⟩, _⟩, h4⟩ := h
    exact rises_mono h1 (rises_skip h4)
theorem rises_fst : ∀ {a b : List St} {x : K}, rises x (a ++ b) = true → rises x a = true
  | [], _, _, _ => rfl
  | s :: a, b, x, h => by
    rw [List.cons_append] at h
    simp only [rises, Bool.and_eq_true] at h ⊢
    exact ⟨h.1, rises_fst h.2⟩
theorem rises_piece {ls : List (List St)} {x : K} (h : rises x ls.flatten = true) {y : List St} (hy : y ∈ ls) : rises ⟨#[]⟩ y = true := by
  induction ls with
  | nil => simp at hy
  | cons z ls ih =>
    rw [List.flatten_cons] at h
    rcases List.mem_cons.1 hy with rfl | hy
    · exact rises_weak (rises_fst h)
    · exact ih (rises_skip h) hy
theorem bst_at (k : K) : (bst k).at = true := by
  show (inB 0 0 255 && inB 0 0 16777215 && inB 0 0 65535) = true
  decide
theorem rises_ups : ∀ {ls : List (List St)} {x : K}, (∀ y ∈ ls, 1 ≤ y.length) → rises x ls.flatten = true → rises x (ups ls) = true
  | [], _, _, _ => rfl
  | y :: ls, x, h1, h => by
    have hy := h1 y (List.mem_cons_self ..)
    cases y with
    | nil => simp at hy
    | cons s y =>
      rw [List.flatten_cons, List.cons_append] at h
      simp only [rises, Bool.and_eq_true] at h
      obtain ⟨⟨h2, _⟩, h4⟩ := h
      have := rises_ups (ls := ls) (x := s.key) (fun z hz => h1 z (List.mem_cons_of_mem _ hz)) (rises_skip h4)
      show rises x (bst s.key :: ups ls) = true
      simp only [rises, Bool.and_eq_true]
      exact ⟨⟨h2, bst_at _⟩, this⟩
theorem rises_bst : ∀ {l : List K} {x : K}, riseK x l = true → rises x (l.map bst) = true
  | [], _, _ => rfl
  | k :: l, x, h => by
    simp only [riseK, Bool.and_eq_true] at h
    simp only [List.map_cons, rises, Bool.and_eq_true]
    exact ⟨⟨h.1, bst_at _⟩, rises_bst h.2⟩
/-- What the frame of a list of slots has, where the list is one of the parts. -/
theorem size_part {l : List St} (h : rises ⟨#[]⟩ l = true) {i : Nat} {y : List St} (hy : (spl l)[i]? = some y) : sizeN 0 y = 9 + pkN y := by
  obtain ⟨h1, h2, _⟩ := spl_sizes hy
  have hr : rises ⟨#[]⟩ y = true := rises_piece (ls := spl l) (by rw [spl_flat]; exact h) (List.mem_of_getElem? hy)
  have : imgOk 0 y = true := by
    unfold imgOk inB
    rw [hr, decide_eq_true (by omega), decide_eq_true (by omega)]
    rfl
  unfold sizeN
  rw [if_pos this]
theorem infoRZ : (Try.prog.info? 44).map (fun i => (i.zero, i.size, i.bytes)) = some (some (.agg #[.string ⟨#[]⟩, .int .i64 0, .int .i64 0, .int .i64 0]), 4, 40) := by kernel_rfl
/-- append(v, x) where v is the call's own and x is one slot of the document's. -/
theorem wpList_append_rst {w : World} {ops : Array Oper} {rest : List Oper} {o : Oper} {a : Act} {Q : Exit → Act → World → Prop} (hgd : o.guard = none) (s x : Operand)
    (ho : o.op = .call { callee := .builtin .append, args := #[s, x], argTypes := #[22, 22] })
    (base : Nat) (v : Value) (n : Nat) (l1 : List St) (hs : a.eval s = v) (hown : w.ownsRow base 44 4 v n (l1.flatMap stv))
    (ad : Addr) (c : Nat) (y : St) (hx : a.eval x = .slice (some ad) 1 c) (hr : ZRow w (some ad) [y])
    (h63 : n + 1 ≤ maxLen) (hbytes : (n + 1) * 40 ≤ 140737488355328) (hbase : base ≤ w.heap.size)
    (h : ∀ v' w', w'.ownsRow base 44 4 v' (n + 1) ((l1 ++ [y]).flatMap stv) → w.grownBy w' v.ownBlock → wpList Try.prog ops Q rest (a.put o.dst v') w') : wpList Try.prog ops Q (o :: rest) a w := by
  obtain ⟨i0, hi, hz0, hz1, hz2⟩ := info_parts infoRZ
  exact wpList_append_own w hgd s x 22 ho base 44 i0 _ 4 40 Try.underlying22 hi hz0 hz1 hz2 rfl (by omega) v n _ hs hown ad 1 c ([y].flatMap stv) hx (by rw [flat_len stv 4 stv_len]; rfl) hr.cells (stv_one _) h63 hbytes hbase
    (fun v' w' h1 h2 _ => h v' w' (by rw [List.flatMap_append]; exact h1) h2)
theorem rzown_row {w : World} {base n : Nat} {v : Value} {l : List St} (hn : n = l.length) (h : w.ownsRow base 44 4 v n (l.flatMap stv)) (hk : ∀ s ∈ l, s.key.size ≤ maxLen) :
    ∃ a cap, v = .slice a n cap ∧ ZArg w a n cap l := by
  subst hn
  rcases h.2 with ⟨rfl, hn⟩ | ⟨g, cap, cur, rfl, hbg, hgg, hnc, hcm, hcs, htake⟩
  · have : l = [] := List.eq_nil_of_length_eq_zero hn
    subst this
    exact ⟨none, 0, rfl, rfl, Nat.le_refl _, by decide, by simp, .inl rfl⟩
  · refine ⟨_, cap, rfl, rfl, hnc, hcm, hk, zrow_of fun j u hj => ?_⟩
    rw [Nat.zero_add, h.cellAt j (by have := (List.getElem?_eq_some_iff.1 hj).1; rwa [flat_len stv 4 stv_len] at this)]
    exact hj
theorem rbox_one (w : World) (s : St) : ZRow (w.alloc (.cells (stv s).toArray 44)) (some ⟨w.heap.size, 0, none⟩) [s] :=
  zrow_of fun j u hj => by
    have := World.news_of_block (heap_new w (.cells (stv s).toArray 44)) j u (by simpa using hj)
    simpa [add_plain] using this
end Go.Proofs.Ytfmgaahileknfaa
