/-
  The document's Unpack.
-/
import Derived.Test.YtfalbbcbgkiejaaIUnpM
import Derived.Test.YtfalbbcbgkiejaaIUnpW
import Derived.Test.YtfalbbcbgkiejaaRIPack
namespace Go.Proofs.Ytfalbbcbgkiejaa
open Go.RowKit M
set_option maxRecDepth 10000

theorem BRow.sub {w : World} {b off : Nat} {l : List Nat} (h : BRow w (some ⟨b, off, none⟩) l) (i j : Nat) : BRow w (some ⟨b, off + i, none⟩) ((l.drop i).take j) := by
  rcases h with rfl | ⟨b', off', ha, hc⟩
  · exact .inl (by simp)
  · cases ha
    refine .inr ⟨b, off + i, rfl, fun k hk => ?_⟩
    simp at hk
    have := hc (i + k) (by omega)
    rw [show off + i + k = off + (i + k) by omega, this]
    congr 3
    simp [List.getD, List.getElem?_drop, show k < j by omega]
theorem rget_any (a : Option Addr) (n cap : Nat) (l : List Nat) (w : World) (hn : n = l.length) (h7 : n ≤ 7) (hb : ∀ x ∈ l, x < 256) (hr : BRow w a l) :
    Calls Try.prog 43 #[.slice a n cap] w fun e w' => e = .returned (.int .i64 (getL (l.take 8) : Nat)) ∧ w = w' := by
  have k1 := ref_get a cap l w (by unfold maxLen; omega) hb hr
  rw [← hn] at k1
  have hv : getL (l.take 8) < 9223372036854775808 := by
    have h := getL_lt (l.take 8) (fun x hx => hb x (List.mem_of_mem_take hx))
    have h2 : (256 : Nat) ^ (l.take 8).length ≤ 256 ^ 7 := Nat.pow_le_pow_right (by decide) (by rw [List.length_take]; omega)
    omega
  obtain ⟨v, ev⟩ : ∃ v, v = getL (l.take 8) := ⟨_, rfl⟩
  rw [← ev] at k1 hv ⊢
  have hv64 : (v : Int) < 9223372036854775808 := by omega
  have hv0 : (0 : Int) ≤ (v : Int) := by omega
  clear ev hr hb hn
  go_enter Try.func43, Try.ntmps43
  go_wp2_with (go_at_call 54; refine k1.mono ?_; rintro e w1 ⟨rfl, rfl⟩)
  go_ret
  exact ⟨rfl, rfl⟩
theorem u8s_take (l : List Nat) (k : Nat) : (u8s l).take k = u8s (l.take k) := by simp [u8s, List.map_take]
theorem u8s_drop (l : List Nat) (k : Nat) : (u8s l).drop k = u8s (l.drop k) := by simp [u8s, List.map_drop]
theorem num_at {L : List Nat} (hb : ∀ x ∈ L, x < 256) (j k : Nat) (h : j + k ≤ L.length) (_h8 : k ≤ 8) : numV k ((u8s L).drop j) = getL (((L.drop j).take k).take 8) := by
  unfold numV
  rw [u8s_drop, (tx_long (r := u8s (L.drop j)) (n := k) (by rw [u8s_length, List.length_drop]; omega) false).1, u8s_take, nats_u8s (fun x hx => hb x (List.mem_of_mem_drop (List.mem_of_mem_take hx)))]
theorem one_at {L : List Nat} (hb : ∀ x ∈ L, x < 256) (j : Nat) (h : j < L.length) : numV 1 ((u8s L).drop j) = L.getD j 0 := by
  have e : ((L.drop j).take 1).take 8 = [L[j]'h] := by rw [List.drop_eq_getElem_cons h]; rfl
  rw [num_at hb j 1 (by omega) (by decide), e]
  simp [getL, List.getD, h]
theorem infoRZ : (Try.prog.info? 62).map (fun i => (i.zero, i.size, i.bytes)) = some (some (.agg #[.string ⟨#[]⟩, .int .i64 0, .int .i64 0, .int .i64 0]), 4, 40) := by kernel_rfl
theorem rzown_row {w : World} {base n : Nat} {v : Value} {l : List St} (hn : n = l.length) (h : w.ownsRow base 62 4 v n (l.flatMap stv)) :
    ∃ a cap, v = .slice a n cap ∧ ZRow w a l ∧ n ≤ cap ∧ cap ≤ maxLen := by
  subst hn
  rcases h.2 with ⟨rfl, hn⟩ | ⟨g, cap, cur, rfl, hbg, hgg, hnc, hcm, hcs, htake⟩
  · have : l = [] := List.eq_nil_of_length_eq_zero hn
    subst this
    exact ⟨none, 0, rfl, .inl rfl, Nat.le_refl _, by decide⟩
  · refine ⟨_, cap, rfl, zrow_of fun j u hj => ?_, hnc, hcm⟩
    rw [Nat.zero_add, h.cellAt j (by have := (List.getElem?_eq_some_iff.1 hj).1; rwa [flat_len stv 4 stv_len] at this)]
    exact hj
structure RU (w W : World) (level : Int) (v : Value) (acc : List St) : Prop where
  res : Row W w.heap.size [.int .i64 0, .slice none 0 0] 24
  img : Row W (w.heap.size + 1) [.int .i64 level, v] 24
  own : W.ownsRow (w.heap.size + 2) 62 4 v acc.length (acc.flatMap stv)
  bel : Below w.heap.size w W
theorem RU.later {w W W' : World} {level : Int} {v : Value} {acc : List St} (h : RU w W level v acc) (hb : Below W.heap.size W W') : RU w W' level v acc :=
  ⟨h.res.later hb, h.img.later hb, owns_later h.own hb, bafter h.bel hb⟩
theorem RU.app {w W W' : World} {level : Int} {v v' : Value} {acc : List St} {s : St} (h : RU w W level v acc) (ho : W'.ownsRow (w.heap.size + 2) 62 4 v' (acc.length + 1) ((acc ++ [s]).flatMap stv)) (hg : W.grownBy W' v.ownBlock) : RU w (W'.setCell ⟨w.heap.size + 1, 1, none⟩ v') level v' (acc ++ [s]) := by
  have h1 := h.res.grown4 h.own hg (by decide)
  have h3 := h.img.grown4 h.own hg (by decide)
  have hb : Below w.heap.size w W' := h.bel.grown hg h.bel.size (fun k hk => by have := (h.own.lt k hk).1; omega)
  refine ⟨h1.other _ _ (by simp), h3.set (i := 1) v' (by simp), ?_, hb.setCell (by simp) _⟩
  rw [List.length_append]
  exact owns_set ho h3 (by decide) 1 v'
theorem RU.seen {w W : World} {level : Int} {v : Value} {acc : List St} (h : RU w W level v acc) : W.cell? ⟨w.heap.size + 1, 0, none⟩ = some (.int .i64 level) ∧ W.cell? ⟨w.heap.size + 1, 1, none⟩ = some v ∧ W.frozen? ⟨w.heap.size + 1, 1, none⟩ = false ∧ w.heap.size + 1 < W.heap.size := ⟨h.img.cell (i := 0) rfl, h.img.cell (i := 1) rfl, h.img.frozen 1, h.img.lt⟩
theorem RU.zero {w W : World} {level : Int} {v : Value} {acc : List St} (h : RU w W level v acc) : W.cell? ⟨w.heap.size, 0, none⟩ = some (.int .i64 0) ∧ W.cell? ⟨w.heap.size, 1, none⟩ = some (.slice none 0 0) ∧ W.frozen? ⟨w.heap.size, 0, none⟩ = false ∧ W.frozen? ⟨w.heap.size, 1, none⟩ = false := ⟨h.res.cell (i := 0) rfl, h.res.cell (i := 1) rfl, h.res.frozen 0, h.res.frozen 1⟩
set_option maxHeartbeats 4000000 in
theorem runp_bad (a : Option Addr) (n cap : Nat) (L : List Nat) (w : World) (hn : n = L.length) (hm : n ≤ maxLen) (hb : ∀ x ∈ L, x < 256) (hr : BRow w a L) (hbad : n < 3 ∨ upM (u8s L) ≠ 84) :
    Calls Try.prog 18 #[.slice a n cap] w fun e w' => UnpPost w (upk (u8s L)) e w' := by
  have HU : Hid (upk (u8s L) = none) := by
    show _ = _
    rw [← rupk_upk]
    unfold rupk
    rw [u8s_length, ← hn]
    rcases hbad with q | q
    · rw [if_pos q]
    · by_cases h3 : n < 3
      · rw [if_pos h3]
      · rw [if_neg h3, if_pos (by simpa using q)]
  unfold maxLen at hm
  by_cases h3 : n < 3
  · have i3 : (n : Int) < 3 := by omega
    clear hn hr hb hbad
    go_enter Try.func18, Try.ntmps18
    go_wp2
    (try simp only [Exit.inBlock, Exit.then])
    refine bodyPost_ret (v := .tuple #[.agg #[.int .i64 0, .slice none 0 0], .bool false]) ?_ rfl (UnpPost.no HU.out (below_new _ _))
    rw [results_cell_tmp rfl]
    go_simp
  · have i3 : ¬ (n : Int) < 3 := by omega
    have hx : upM (u8s L) = L.getD 0 0 := by
      have := one_at hb 0 (by omega)
      rwa [List.drop_zero] at this
    obtain ⟨b, off, rfl, hc⟩ : ∃ b off, a = some ⟨b, off, none⟩ ∧ ∀ i, i < L.length → w.cell? ⟨b, off + i, none⟩ = some (.int .u8 ((L.getD i 0 : Nat) : Int)) := by
      rcases hr with e | h
      · rw [e] at hn; simp at hn; omega
      · exact h
    have c0 := hc 0 (by omega)
    rw [Nat.add_zero] at c0
    obtain ⟨x, ex⟩ : ∃ x, x = L.getD 0 0 := ⟨_, rfl⟩
    rw [← ex] at c0 hx
    have hx84 : ((x : Int) != 84) = true := by
      have : x ≠ 84 := by rw [← hx]; rcases hbad with q | q; exact absurd q h3; exact q
      simp; omega
    have hbw : b < w.heap.size := World.block_lt_of_cell? w _ c0
    clear hn hc hb hbad hx ex
    go_enter Try.func18, Try.ntmps18
    go_wp2
    (try simp only [Exit.inBlock, Exit.then])
    refine bodyPost_ret (v := .tuple #[.agg #[.int .i64 0, .slice none 0 0], .bool false]) ?_ rfl (UnpPost.no HU.out (below_new _ _))
    rw [results_cell_tmp rfl]
    go_simp
end Go.Proofs.Ytfalbbcbgkiejaa
