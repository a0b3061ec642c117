/-
  The document's Change and Room.
-/
import Derived.Test.YtplhlbajgijohaaPF
namespace Go.Proofs.Ytplhlbajgijohaa
open Go.RowKit M
set_option maxRecDepth 10000

/-- What a list of nodes that is handed back is. -/
def NPost (w : World) (l : List Nw) (e : Ending) (w' : World) : Prop := ∃ a cap, e = .returned (.slice a l.length cap) ∧ NArg w' a l.length cap l ∧ Below w.heap.size w w'
theorem okK_inL {m : List Nw} {n : Nw} (hm : okK m) (h1 : n.k.size ≤ 140737488355328) (h2 : n.v.size ≤ 140737488355328) : okK (inL m n) :=
  ⟨fun y hy => (mem_inL hy).elim (hm.1 y) (fun e => by rw [e]; exact h1), fun y hy => (mem_inL hy).elim (hm.2 y) (fun e => by rw [e]; exact h2)⟩
/-- The nodes of another key. -/
def oth (m : List Nw) (k : KK) : List Nw := m.filter fun x => decide (x.k ≠ k)
theorem oth_snoc (m : List Nw) (k : KK) (x : Nw) : oth (m ++ [x]) k = if x.k = k then oth m k else oth m k ++ [x] := by
  unfold oth
  rw [List.filter_append]
  by_cases h : x.k = k
  · rw [if_pos h]; simp [h]
  · rw [if_neg h]; simp [h]
theorem oth_len (m : List Nw) (k : KK) : (oth m k).length ≤ m.length := List.length_filter_le _ _
theorem inL_len (m : List Nw) (n : Nw) : (inL m n).length ≤ m.length + 1 := by
  show (oth m n.k ++ (if n.g then [] else [n])).length ≤ _
  rw [List.length_append]
  have := oth_len m n.k
  cases n.g <;> simp <;> omega
theorem okK_oth {m : List Nw} (k : KK) (h : okK m) : okK (oth m k) := ⟨fun y hy => h.1 y (List.mem_filter.1 hy).1, fun y hy => h.2 y (List.mem_filter.1 hy).1⟩
theorem beq_no {s t : KK} (h : ¬ s = t) : (s.toList == t.toList) = false := by
  rw [ByteArray.toList_eq, ByteArray.toList_eq, beq_eq_false_iff_ne]
  intro e
  refine h ?_
  cases s
  cases t
  simp only at e
  rw [Array.toList_inj] at e
  rw [e]
set_option maxHeartbeats 8000000 in
theorem rin_any (a : Option Addr) (len cap : Nat) (m : List Nw) (x : Nw) (w : World) (hm : NArg w a len cap m) (hl : len ≤ 2000000000) (h1 : x.k.size ≤ 140737488355328) (h2 : x.v.size ≤ 140737488355328) :
    Calls Try.prog 47 #[.slice a len cap, .agg #[.string x.k, .string x.v, .bool x.g]] w fun e w' => NPost w (inL m x) e w' := by
  have HM : Hid (NArg w a len cap m) := hm
  have hcm := hm.max
  have hlc := hm.le
  unfold maxLen at hcm
  have HK : Hid (okK (inL m x)) := okK_inL ⟨hm.keys, hm.vals⟩ h1 h2
  obtain ⟨W, hW⟩ : ∃ W, W = w.alloc (.cells #[.string x.k, .string x.v, .bool x.g] 40) := ⟨_, rfl⟩
  have HX : Hid (Row W w.heap.size [.string x.k, .string x.v, .bool x.g] 40) := by rw [hW]; exact Row.new w [.string x.k, .string x.v, .bool x.g] _
  have HBW : Hid (Below w.heap.size w W) := by rw [hW]; exact below_new _ _
  have HWS : Hid (W.heap.size = w.heap.size + 1) := by show _ = _; rw [hW]; simp
  clear hm h1 h2
  go_enter Try.func47, Try.ntmps47
  go_wp2_with fail
  rw [← hW]
  clear hW
  go_wp2
  go_loopg [5, 6] len (fun kx s5 s6 wr => ∃ (i : Nat), i + kx = len ∧ s6 = .int .i64 (i : Nat) ∧ Hid (ON wr W.heap.size s5 (oth (m.take i) x.k).length (oth (m.take i) x.k) ∧ Below W.heap.size W wr))
  case atStart => exact ⟨0, by omega, rfl, (⟨⟨rfl, .inl ⟨rfl, rfl⟩⟩, Below.refl _ _⟩ : _ ∧ _)⟩
  case round =>
    obtain ⟨i, hi, rfl, I⟩ := hrel
    by_cases hlt : i < len
    · have HN := HM.out.row.later (Below.after HBW.out I.out.2)
      obtain ⟨b, off, y, rfl, hy, hym, hta, _, q0, q1, q2⟩ := nrow_at HN (i := i) (by have := HM.out.len_eq; omega)
      obtain ⟨na, nc, hv, _⟩ := ON.row rfl I.out.1
      subst hv
      have hi0 : (0 : Int) ≤ (i : Int) := by omega
      have hi1 : (i : Int) < (len : Int) := by omega
      have hbw : b < wr.heap.size := World.block_lt_of_cell? wr _ q0
      have HXr := HX.out.later I.out.2
      have hxw := HXr.lt
      have HC : Hid (∀ q : Wd wr, q.v.cell? ⟨b, off + i * 3, none⟩ = some (.string y.k) ∧ q.v.cell? ⟨b, off + i * 3 + 1, none⟩ = some (.string y.v) ∧ q.v.cell? ⟨b, off + i * 3 + 2, none⟩ = some (.bool y.g) ∧ q.v.cell? ⟨w.heap.size, 0, none⟩ = some (.string x.k)) :=
        fun q => ⟨(q.h.cell (p := ⟨b, off + i * 3, none⟩) hbw).trans q0, (q.h.cell (p := ⟨b, off + i * 3 + 1, none⟩) hbw).trans q1, (q.h.cell (p := ⟨b, off + i * 3 + 2, none⟩) hbw).trans q2, (HXr.later q.h).cell (i := 0) rfl⟩
      have HS : Hid (oth (m.take (i + 1)) x.k = if y.k = x.k then oth (m.take i) x.k else oth (m.take i) x.k ++ [y]) := by show _ = _; rw [hta, oth_snoc]
      have hn1 : (oth (m.take i) x.k).length ≤ len := by have := oth_len (m.take i) x.k; rw [List.length_take] at this; omega
      obtain ⟨L1, hL1⟩ : ∃ L1, L1 = oth (m.take i) x.k := ⟨_, rfl⟩
      rw [← hL1] at HS I hn1 ⊢
      obtain ⟨n1, hN1⟩ : ∃ n1, n1 = L1.length := ⟨_, rfl⟩
      have HN1 : Hid (n1 = L1.length) := hN1
      rw [← hN1] at I hn1 ⊢
      clear q0 q1 q2 hta hym hy HN HXr hL1 hN1
      go_wp2_with fail
      have z0 := fun q => (HC.out q).1
      have z3 := fun q => (HC.out q).2.2.2
      have ne := Wd.non wr
      by_cases hk : y.k = x.k
      · refine quiet_below (by kernel_rfl) ?_
        repeat (first | go_big_quiet_skip | go_big_quiet_step (fail))
        refine wpQuiet_nil ?_
        rintro _ ⟨p7, rfl⟩
        have HE : Hid (ON p7.v W.heap.size (.slice na n1 nc) (oth (m.take (i + 1)) x.k).length (oth (m.take (i + 1)) x.k) ∧ Below W.heap.size W p7.v) := by
          have e := HS.out
          rw [if_pos hk] at e
          rw [e, ← HN1.out]
          exact (⟨I.out.1.later p7.h, Below.after I.out.2 p7.h⟩ : _ ∧ _)
        clear z0 z3 ne hk I
        go_wp2_with fail
        go_roundg (len - (i + 1))
        case measure => omega
        case rel => exact ⟨i + 1, by omega, by go_num, HE.out⟩
      · have hbq := beq_no hk
        refine quiet_below (by kernel_rfl) ?_
        repeat (first | go_big_quiet_skip | go_big_quiet_step (fail))
        refine wpQuiet_nil ?_
        rintro _ ⟨p7, rfl⟩
        obtain ⟨c0, c1, c2, _⟩ := HC.out p7
        have hbp : b < p7.v.heap.size := Nat.lt_of_lt_of_le hbw p7.h.size
        have HP : Hid (ON p7.v W.heap.size (.slice na n1 nc) n1 L1 ∧ Below W.heap.size W p7.v) := (⟨I.out.1.later p7.h, Below.after I.out.2 p7.h⟩ : _ ∧ _)
        have HS2 : Hid (oth (m.take (i + 1)) x.k = L1 ++ [y]) := by have e := HS.out; rw [if_neg hk] at e; exact e
        have HQ : Hid (n1 + 1 ≤ maxLen ∧ (n1 + 1) * 40 ≤ 140737488355328) := ⟨by unfold maxLen; omega, by omega⟩
        obtain ⟨V, hV⟩ : ∃ V, V = p7.v := ⟨_, rfl⟩
        rw [← hV] at c0 c1 c2 hbp HP ⊢
        obtain ⟨yk, yv, yg⟩ := y
        dsimp only at c0 c1 c2 hbq
        clear z0 z3 ne hk I HC hV hbw hxw
        go_wp2_with (at_builtin; refine wpList_append_nws rfl (.tmp 21) (.tmp 26) rfl W.heap.size (.slice na n1 nc) n1 L1 rfl (HP.out.1.later (below_new V _)) (some ⟨V.heap.size, 0, none⟩) 1 1 [⟨yk, yv, yg⟩] rfl rfl (nrow_one V ⟨yk, yv, yg⟩) (fun e => by cases e) HQ.out.1 HQ.out.2 (Below.after HP.out.2 (below_new V _)).size ?_; intro v5 w5 ho5 hg5; have HE : Hid (ON w5 W.heap.size v5 (oth (m.take (i + 1)) x.k).length (oth (m.take (i + 1)) x.k) ∧ Below W.heap.size W w5) := (⟨by rw [HS2.out, List.length_append, ← HN1.out]; exact ho5, ON.grown (Below.after HP.out.2 (below_new V _)) hg5 (Below.after HP.out.2 (below_new V _)).size (HP.out.1.later (below_new V _))⟩ : _ ∧ _); clear ho5 hg5)
        go_roundg (len - (i + 1))
        case measure => omega
        case rel => exact ⟨i + 1, by omega, by go_num, HE.out⟩
    · have hkl : i = len := by omega
      subst hkl
      have hall : m.take i = m := by rw [HM.out.len_eq, List.take_length]
      rw [hall] at I
      obtain ⟨L1, hL1⟩ : ∃ L1, L1 = oth m x.k := ⟨_, rfl⟩
      have HI : Hid (inL m x = L1 ++ (if x.g then [] else [x])) := by rw [hL1]; rfl
      have hn1 : (oth m x.k).length ≤ i := by have := oth_len m x.k; have := HM.out.len_eq; omega
      rw [← hL1] at I hn1
      obtain ⟨na, nc, hv, _⟩ := ON.row rfl I.out.1
      obtain ⟨n1, hN1⟩ : ∃ n1, n1 = L1.length := ⟨_, rfl⟩
      have HN1 : Hid (n1 = L1.length) := hN1
      rw [← hN1] at I hn1 hv
      subst hv
      obtain ⟨x0, x1, x2, _, _, _⟩ := (HX.out.later I.out.2).seen3
      have hxw := (HX.out.later I.out.2).lt
      obtain ⟨xk, xv, xg⟩ := x
      dsimp only at x0 x1 x2
      clear hall hL1 hN1
      cases xg with
      | true =>
        have HE : Hid (ON wr W.heap.size (.slice na n1 nc) (inL m ⟨xk, xv, true⟩).length (inL m ⟨xk, xv, true⟩)) := by
          have e := HI.out
          simp only [if_true, List.append_nil] at e
          rw [e, ← HN1.out]
          exact I.out.1
        go_wp2
        go_ret
        obtain ⟨_, _, q, hN⟩ := ON.narg rfl HE.out HK.out
        exact ⟨_, _, by rw [q]; rfl, hN, Below.after HBW.out I.out.2⟩
      | false =>
        have HS2 : Hid (inL m ⟨xk, xv, false⟩ = L1 ++ [⟨xk, xv, false⟩]) := HI.out
        have HQ : Hid (n1 + 1 ≤ maxLen ∧ (n1 + 1) * 40 ≤ 140737488355328) := ⟨by unfold maxLen; omega, by omega⟩
        clear HI
        go_wp2_with (at_builtin; refine wpList_append_nws rfl (.tmp 31) (.tmp 33) rfl W.heap.size (.slice na n1 nc) n1 L1 rfl (I.out.1.later (below_new wr _)) (some ⟨wr.heap.size, 0, none⟩) 1 1 [⟨xk, xv, false⟩] rfl rfl (nrow_one wr ⟨xk, xv, false⟩) (fun e => by cases e) HQ.out.1 HQ.out.2 (Below.after I.out.2 (below_new wr _)).size ?_; intro v5 w5 ho5 hg5; have HE : Hid (ON w5 W.heap.size v5 (inL m ⟨xk, xv, false⟩).length (inL m ⟨xk, xv, false⟩) ∧ Below W.heap.size W w5) := (⟨by rw [HS2.out, List.length_append, ← HN1.out]; exact ho5, ON.grown (Below.after I.out.2 (below_new wr _)) hg5 (Below.after I.out.2 (below_new wr _)).size (I.out.1.later (below_new wr _))⟩ : _ ∧ _); clear ho5 hg5)
        go_ret
        obtain ⟨_, _, q, hN⟩ := ON.narg rfl HE.out.1 HK.out
        exact ⟨_, _, by rw [q]; rfl, hN, Below.after HBW.out HE.out.2⟩

theorem doneL_len : ∀ (g m : List Nw), (doneL m g).length ≤ m.length + g.length
  | [], m => Nat.le_refl _
  | n :: g, m => by
    have h1 := doneL_len g (inL m n)
    have h2 := inL_len m n
    show (doneL (inL m n) g).length ≤ _
    rw [List.length_cons]
    omega
set_option maxHeartbeats 4000000 in
theorem rdone_any (a : Option Addr) (len cap : Nat) (m : List Nw) (a2 : Option Addr) (len2 cap2 : Nat) (g : List Nw) (w : World) (hm : NArg w a len cap m) (hg : NArg w a2 len2 cap2 g) (hl : len + len2 ≤ 2000000000) :
    Calls Try.prog 41 #[.slice a len cap, .slice a2 len2 cap2] w fun e w' => NPost w (doneL m g) e w' := by
  have HM : Hid (NArg w a len cap m) := hm
  have HG : Hid (NArg w a2 len2 cap2 g) := hg
  have hcm := hg.max
  have hlc := hg.le
  unfold maxLen at hcm
  have HLM : Hid (len = m.length) := hm.len_eq
  clear hm hg
  go_enter Try.func41, Try.ntmps41
  go_wp2
  go_loopg [0, 5] len2 (fun kx s0 s5 wr => ∃ (i n : Nat) (b : Option Addr) (c : Nat), i + kx = len2 ∧ s5 = .int .i64 (i : Nat) ∧ s0 = .slice b n c ∧ Hid (NArg wr b n c (doneL m (g.take i)) ∧ Below w.heap.size w wr))
  case atStart => exact ⟨0, len, a, cap, by omega, rfl, rfl, (⟨HM.out, Below.refl _ _⟩ : _ ∧ _)⟩
  case round =>
    obtain ⟨i, n, b, c, hi, rfl, rfl, I⟩ := hrel
    by_cases hlt : i < len2
    · obtain ⟨b2, off, y, rfl, hy, hym, hta, _, q0, q1, q2⟩ := nrow_at (HG.out.row.later I.out.2) (i := i) (by have := HG.out.len_eq; omega)
      have hi0 : (0 : Int) ≤ (i : Int) := by omega
      have hi1 : (i : Int) < (len2 : Int) := by omega
      have hn : n ≤ 2000000000 := by
        rw [I.out.1.len_eq]
        have := doneL_len (g.take i) m
        rw [List.length_take] at this
        have := HLM.out
        omega
      have hbw : b2 < wr.heap.size := World.block_lt_of_cell? wr _ q0
      have kn := rin_any b n c (doneL m (g.take i)) y wr I.out.1 hn (HG.out.keys y hym) (HG.out.vals y hym)
      have HS : Hid (doneL m (g.take (i + 1)) = inL (doneL m (g.take i)) y) := by show _ = _; rw [hta, doneL_snoc]
      obtain ⟨k, v, gg⟩ := y
      dsimp only at q0 q1 q2 kn
      clear hta hy hym
      go_wp2_with (go_at_call 47; refine kn.mono ?_; rintro e w1 ⟨b1, c1, rfl, hN, hb⟩; have HE : Hid (NArg w1 b1 (inL (doneL m (g.take i)) ⟨k, v, gg⟩).length c1 (doneL m (g.take (i + 1))) ∧ Below w.heap.size w w1) := (⟨by rw [HS.out]; exact hN, Below.after I.out.2 hb⟩ : _ ∧ _); clear hN hb)
      go_roundg (len2 - (i + 1))
      case measure => omega
      case rel => exact ⟨i + 1, _, b1, c1, by omega, by go_num, rfl, HE.out⟩
    · have hkl : i = len2 := by omega
      subst hkl
      have HF : Hid (NArg wr b n c (doneL m g) ∧ Below w.heap.size w wr) := by have := I.out; rw [HG.out.len_eq, List.take_length] at this; exact this
      have HFN : Hid (n = (doneL m g).length) := HF.out.1.len_eq
      clear I
      go_wp2
      go_ret
      exact ⟨b, c, by rw [← HFN.out]; rfl, by rw [← HFN.out]; exact HF.out.1, HF.out.2⟩
theorem aft_nodes (l : List Nw) : nodesF (doneL [] l) = aft l := by
  unfold nodesF aft
  rw [allC_live (doneL_live l (by simp))]
set_option maxHeartbeats 4000000 in
theorem rchange_any (a : Option Addr) (len cap : Nat) (l : List Nw) (a2 : Option Addr) (len2 cap2 : Nat) (g : List Nw) (w : World) (hl : NArg w a len cap l) (hg : NArg w a2 len2 cap2 g) (h1 : len ≤ 1048576) (h2 : len2 ≤ 1048576) :
    Calls Try.prog 29 #[.slice a len cap, .slice a2 len2 cap2] w fun e w' => e = .returned (.tuple #[.int .i64 ((aft l : Nat) : Int), .int .i64 ((aft (l ++ g) : Nat) : Int)]) ∧ Below w.heap.size w w' := by
  have k1 : ∀ W, Below w.heap.size w W → Calls Try.prog 41 #[.slice none 0 0, .slice a len cap] W fun e w' => NPost W (doneL [] l) e w' := fun W h =>
    rdone_any none 0 0 [] a len cap l W ⟨rfl, Nat.le_refl _, by decide, .inl rfl, by simp, by simp⟩ (hl.later h) (by omega)
  have hn : (doneL [] l).length ≤ 1048576 := by have := doneL_len l []; have := hl.len_eq; simp at *; omega
  have k2 : ∀ W b c, NArg W b (doneL [] l).length c (doneL [] l) → Calls Try.prog 21 #[.slice b (doneL [] l).length c] W fun e w' => e = .returned (.int .i64 ((aft l : Nat) : Int)) ∧ Below W.heap.size W w' := fun W b c h => by
    rw [← aft_nodes]; exact rnodes_any b _ c _ W h
  have k3 : ∀ W b c, Below w.heap.size w W → NArg W b (doneL [] l).length c (doneL [] l) → Calls Try.prog 41 #[.slice b (doneL [] l).length c, .slice a2 len2 cap2] W fun e w' => NPost W (doneL [] (l ++ g)) e w' := fun W b c hW h => by
    rw [doneL_app]; exact rdone_any b _ c _ a2 len2 cap2 g W h (hg.later hW) (by omega)
  have k4 : ∀ W b c, NArg W b (doneL [] (l ++ g)).length c (doneL [] (l ++ g)) → Calls Try.prog 21 #[.slice b (doneL [] (l ++ g)).length c] W fun e w' => e = .returned (.int .i64 ((aft (l ++ g) : Nat) : Int)) ∧ Below W.heap.size W w' := fun W b c h => by
    rw [← aft_nodes]; exact rnodes_any b _ c _ W h
  generalize aft l = A at *
  generalize aft (l ++ g) = B at *
  obtain ⟨M1, e1⟩ : ∃ M1, M1 = doneL [] l := ⟨_, rfl⟩
  obtain ⟨M2, e2⟩ : ∃ M2, M2 = doneL [] (l ++ g) := ⟨_, rfl⟩
  rw [← e1] at k1 k2 k3 hn
  rw [← e2] at k3 k4
  obtain ⟨n1, f1⟩ : ∃ n1, n1 = M1.length := ⟨_, rfl⟩
  obtain ⟨n2, f2⟩ : ∃ n2, n2 = M2.length := ⟨_, rfl⟩
  rw [← f1] at k2 k3 hn
  rw [← f2] at k4
  have HF1 : Hid (n1 = M1.length) := f1
  have HF2 : Hid (n2 = M2.length) := f2
  clear e1 e2 f1 f2 hl hg
  have K1 : Hid True := trivial
  have K2 : Hid True := trivial
  go_enter Try.func29, Try.ntmps29
  go_wp2_with (first
    | (go_at_call 41; clear K1; refine (k1 _ (Below.refl _ _)).mono ?_; rintro e w1 ⟨b1, c1, rfl, hN, hb⟩; rw [← HF1.out] at hN ⊢; have N1 : Hid (NArg w1 b1 n1 c1 M1) := hN; have B1 : Hid (Below w.heap.size w w1) := hb; clear hN hb k1)
    | (go_at_call 21; clear K2; refine (k2 _ _ _ N1.out).mono ?_; rintro e w2 ⟨rfl, hb⟩; have N2 : Hid (NArg w2 b1 n1 c1 M1) := N1.out.later hb; have B2 : Hid (Below w.heap.size w w2) := Below.after B1.out hb; clear hb k2)
    | (go_at_call 41; refine (k3 _ _ _ B2.out N2.out).mono ?_; rintro e w3 ⟨b3, c3, rfl, hN, hb⟩; rw [← HF2.out] at hN ⊢; have N3 : Hid (NArg w3 b3 n2 c3 M2) := hN; have B3 : Hid (Below w.heap.size w w3) := Below.after B2.out hb; clear hN hb k3)
    | (go_at_call 21; refine (k4 _ _ _ N3.out).mono ?_; rintro e w4 ⟨rfl, hb⟩; have B4 : Hid (Below w.heap.size w w4) := Below.after B3.out hb; clear hb k4))
  go_ret2
  exact ⟨rfl, B4.out⟩
set_option maxHeartbeats 2000000 in
theorem rroom_any (a : Option Addr) (len cap : Nat) (l : List Nw) (a2 : Option Addr) (len2 cap2 : Nat) (g : List Nw) (limit : Int) (w : World) (hl : NArg w a len cap l) (hg : NArg w a2 len2 cap2 g) (h1 : len ≤ 1048576) (h2 : len2 ≤ 1048576) :
    Calls Try.prog 31 #[.slice a len cap, .slice a2 len2 cap2, .int .i64 limit] w fun e w' => e = .returned (.int .i64 (roomF l g limit)) ∧ Below w.heap.size w w' := by
  have kc := rchange_any a len cap l a2 len2 cap2 g w hl hg h1 h2
  have HR : Hid (roomF l g limit = if max limit ((aft l : Nat) : Int) < ((aft (l ++ g) : Nat) : Int) then 28 else 0) := rfl
  generalize roomF l g limit = R at *
  generalize aft l = A at *
  generalize aft (l ++ g) = B at *
  clear hl hg h1 h2
  by_cases h3 : limit < (B : Int)
  · by_cases h4 : (A : Int) < (B : Int)
    · have HR2 : Hid (R = 28) := by show _ = _; rw [HR.out, if_pos (by omega)]
      clear HR
      go_enter Try.func31, Try.ntmps31
      go_wp2_with (go_at_call 29; refine kc.mono ?_; rintro e w1 ⟨rfl, hb⟩)
      go_ret
      exact ⟨ret_int (by rw [HR2.out]), hb⟩
    · have HR2 : Hid (R = 0) := by show _ = _; rw [HR.out, if_neg (by omega)]
      clear HR
      go_enter Try.func31, Try.ntmps31
      go_wp2_with (go_at_call 29; refine kc.mono ?_; rintro e w1 ⟨rfl, hb⟩)
      go_ret
      exact ⟨ret_int (by rw [HR2.out]), hb⟩
  · have HR2 : Hid (R = 0) := by show _ = _; rw [HR.out, if_neg (by omega)]
    clear HR
    go_enter Try.func31, Try.ntmps31
    go_wp2_with (go_at_call 29; refine kc.mono ?_; rintro e w1 ⟨rfl, hb⟩)
    go_ret
    exact ⟨ret_int (by rw [HR2.out]), hb⟩
end Go.Proofs.Ytplhlbajgijohaa
