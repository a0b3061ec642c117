/-
  SpaceOrphans, second form: an entry that is taken out makes room for its inode's orphan, whatever its name, whatever other nodes there are; and the chapter's examples come out. Condition: the arguments are together of bulk at most 1048576 (the first form is false by size: sums stop at 2^62).
-/
import Derived.Test.YtplhlbajgijohabPU
import Derived.Test.YtplhlbajgijohabPW
namespace Go.Proofs.Ytplhlbajgijohab.spaceOrphans
open Go.ChangeShapes Go.WideShapes Go.ChangeAt Go.RowKit Go.Deep Go.Proofs.Ytplhlbajgijohab M
set_option maxRecDepth 10000

theorem allC_small : ∀ {l : List Nw}, (∀ y ∈ l, y.k.size ≤ 1048576 ∧ y.v.size ≤ 1048576) → allC l ≤ l.length * 3145792
  | [], _ => by simp [allC]
  | x :: l, h => by
    have ih := allC_small (l := l) fun y hy => h y (List.mem_cons_of_mem _ hy)
    have hx := h x (List.mem_cons_self ..)
    have e : allC (x :: l) = (if x.g then 0 else x.c) + allC l := by
      have := allC_app [x] l
      rw [List.singleton_append] at this
      rw [this]
      congr 1
      unfold allC
      cases hg : x.g <;> simp [hg]
    have hc : x.c ≤ 3145792 := by unfold Nw.c cst; omega
    rw [e, List.length_cons, Nat.succ_mul]
    split <;> omega
theorem inL_len (m : List Nw) (n : Nw) : (inL m n).length ≤ m.length + 1 := by
  unfold inL
  rw [List.length_append]
  refine Nat.add_le_add (List.length_filter_le _ _) ?_
  cases n.g <;> simp
theorem doneL_len : ∀ (g m : List Nw), (doneL m g).length ≤ m.length + g.length
  | [], _ => Nat.le_refl _
  | n :: g, m => by
    have h1 := doneL_len g (inL m n)
    have h2 := inL_len m n
    show (doneL (inL m n) g).length ≤ _
    rw [List.length_cons]
    omega
theorem filt_all {m : List Nw} {k : KK} (h : ∀ x ∈ m, x.k ≠ k) : m.filter (fun x => decide (x.k ≠ k)) = m := List.filter_eq_self.2 fun x hx => decide_eq_true (h x hx)
theorem orph {l : List Nw} {E O : Nw} (v : KK) (hE : E.g = false) (hO : O.g = false) (hl : ∀ x ∈ l, x.k ≠ E.k ∧ x.k ≠ O.k) (hc : O.c < E.c) (hs : okU l) (hEc : E.c ≤ 1000) :
    aft ((l ++ [E]) ++ [⟨E.k, v, true⟩, O]) < aft (l ++ [E]) := by
  obtain ⟨D, eD⟩ : ∃ D, D = doneL [] l := ⟨_, rfl⟩
  have hD : ∀ x ∈ D, x ∈ l := fun x hx => by rw [eD] at hx; exact (mem_doneL hx).elim (fun q => by simp at q) id
  have e1 : doneL [] (l ++ [E]) = D ++ [E] := by
    rw [doneL_snoc, ← eD]
    unfold inL
    rw [filt_all fun x hx => (hl x (hD x hx)).1, hE]
    rfl
  have e2 : doneL [] ((l ++ [E]) ++ [⟨E.k, v, true⟩, O]) = D ++ [O] := by
    rw [show (l ++ [E]) ++ [⟨E.k, v, true⟩, O] = ((l ++ [E]) ++ [(⟨E.k, v, true⟩ : Nw)]) ++ [O] by simp, doneL_snoc, doneL_snoc, e1]
    have e3 : inL (D ++ [E]) ⟨E.k, v, true⟩ = D := by
      unfold inL
      rw [List.filter_append, filt_all fun x hx => (hl x (hD x hx)).1]
      simp
    rw [e3]
    unfold inL
    rw [filt_all fun x hx => (hl x (hD x hx)).2, hO]
    rfl
  have hsm := allC_small (l := D) fun y hy => hs.2 y (hD y hy)
  rw [allC_live (by rw [eD]; exact doneL_live l (by simp))] at hsm
  have hlen : D.length ≤ 1048576 := by have := doneL_len l []; rw [← eD] at this; have := hs.1; simp at *; omega
  have q1 : D.length * 3145792 ≤ 1048576 * 3145792 := Nat.mul_le_mul_right _ hlen
  unfold aft
  rw [e1, e2, List.map_append, List.map_append, List.sum_append, List.sum_append]
  unfold top
  simp only [List.map_cons, List.map_nil, List.sum_cons, List.sum_nil]
  omega
/-- The nodes of other keys. -/
def flt (l : List Nw) (e o : KK) : List Nw := l.filter fun x => decide (x.k ≠ e ∧ x.k ≠ o)
theorem flt_snoc (m : List Nw) (e o : KK) (x : Nw) : flt (m ++ [x]) e o = if x.k ≠ e ∧ x.k ≠ o then flt m e o ++ [x] else flt m e o := by
  unfold flt
  rw [List.filter_append]
  by_cases h : x.k ≠ e ∧ x.k ≠ o
  · rw [if_pos h]
    congr 1
    simp [h.1, h.2]
  · rw [if_neg h]
    have : ([x].filter fun x => decide (x.k ≠ e ∧ x.k ≠ o)) = [] := by
      rw [List.filter_eq_nil_iff]
      intro y hy
      rw [List.mem_singleton.1 hy]
      simpa using h
    rw [this, List.append_nil]
theorem flt_len (m : List Nw) (e o : KK) : (flt m e o).length ≤ m.length := List.length_filter_le _ _
theorem beq_no {s t : KK} (h : ¬ s = t) : (s.toList == t.toList) = false := by
  rw [ByteArray.toList_eq, ByteArray.toList_eq, beq_eq_false_iff_ne]
  intro e
  refine h ?_
  cases s
  cases t
  simp only at e
  rw [Array.toList_inj] at e
  rw [e]
/-- The call's own boxes of e and o. -/
structure Bxs (W wr : World) (p q : Nat) (ek ev ok : KK) : Prop where
  below : Below W.heap.size W wr
  e : Row wr p [.string ek, .string ev, .bool false] 24
  o : Row wr q [.string ok, .string ⟨#[]⟩, .bool false] 24
theorem Bxs.later {W wr w' : World} {p q : Nat} {ek ev ok : KK} (h : Bxs W wr p q ek ev ok) (hb : Below wr.heap.size wr w') : Bxs W w' p q ek ev ok :=
  ⟨Below.after h.below hb, h.e.later hb, h.o.later hb⟩

theorem Bxs.grown {W wr w' : World} {p q : Nat} {ek ev ok : KK} {row : Option Nat} (h : Bxs W wr p q ek ev ok) (h0 : Bxs W W p q ek ev ok) (hg : wr.grownBy w' row) (hr : ∀ k, row = some k → W.heap.size ≤ k ∧ k < wr.heap.size) : Bxs W w' p q ek ev ok := by
  have hb : Below W.heap.size W w' := h.below.grown hg h.below.size (fun k hk => (hr k hk).1)
  exact ⟨hb, h0.e.later hb, h0.o.later hb⟩

/-- What is taken out, and the orphan. -/
abbrev two (ek ok : KK) : List Nw := [⟨ek, ⟨#[]⟩, true⟩, ⟨ok, ⟨#[]⟩, false⟩]
theorem two_narg (V : World) (ek ok : KK) (hk : okK (two ek ok)) : NArg (V.alloc (.cells #[.string ek, .string ⟨#[]⟩, .bool true, .string ok, .string ⟨#[]⟩, .bool false] 24)) (some ⟨V.heap.size, 0, none⟩) 2 2 (two ek ok) :=
  ⟨rfl, Nat.le_refl _, by unfold maxLen; omega, nrow_new2 V ⟨ek, ⟨#[]⟩, true⟩ ⟨ok, ⟨#[]⟩, false⟩ _, hk.1, hk.2⟩
theorem chg (V : World) (b : Option Addr) (n c : Nat) (L : List Nw) (ek ok : KK) (hN : NArg V b n c L) (hk : okK (two ek ok)) (hn : n ≤ 1048577) :
    Calls Try.prog 7 #[.slice b n c, .slice (some ⟨V.heap.size, 0, none⟩) 2 2] (V.alloc (.cells #[.string ek, .string ⟨#[]⟩, .bool true, .string ok, .string ⟨#[]⟩, .bool false] 24)) fun e w' => e = .returned (.tuple #[.int .i64 ((aft L : Nat) : Int), .int .i64 ((aft (L ++ two ek ok) : Nat) : Int)]) ∧ Below V.heap.size V w' := by
  refine (changeC_any b n c L (some ⟨V.heap.size, 0, none⟩) 2 2 (two ek ok) _ (hN.later (below_new _ _)) (two_narg V ek ok hk) (by omega) (by omega)).mono ?_
  rintro e w' ⟨rfl, hb⟩
  exact ⟨rfl, Below.after (below_new _ _) hb⟩
theorem chr (V : World) (b : Option Addr) (n c : Nat) (L : List Nw) (ek ok : KK) (hN : NArg V b n c L) (hk : okK (two ek ok)) (hn : n ≤ 1048577) :
    Calls Try.prog 8 #[.slice b n c, .slice (some ⟨V.heap.size, 0, none⟩) 2 2, .int .i64 0] (V.alloc (.cells #[.string ek, .string ⟨#[]⟩, .bool true, .string ok, .string ⟨#[]⟩, .bool false] 24)) fun e w' => e = .returned (.int .i64 (roomF L (two ek ok) 0)) ∧ Below V.heap.size V w' := by
  refine (roomC_any b n c L (some ⟨V.heap.size, 0, none⟩) 2 2 (two ek ok) 0 _ (hN.later (below_new _ _)) (two_narg V ek ok hk) (by omega) (by omega)).mono ?_
  rintro e w' ⟨rfl, hb⟩
  exact ⟨rfl, Below.after (below_new _ _) hb⟩

set_option maxHeartbeats 16000000 in
theorem walk_no (a : Option Addr) (len cap : Nat) (dir ino kind : Int) (name : KK) (w : World) (hn : name.size ≤ maxLen) (hi : enOk dir ⟨name.data.toList, ino, kind⟩ = false) :
    Calls Try.prog 3 #[.slice a len cap, .int .i64 dir, .int .i64 ino, .string name, .int .i64 kind] w fun e w' => e = .returned (.bool true) ∧ Below w.heap.size w w' := by
  have kE : ∀ W, Calls Try.prog 4 #[.int .i64 dir, .agg #[.string name, .int .i64 ino, .int .i64 kind]] W fun e w' => e = .returned (.tuple #[.agg #[.string ⟨#[]⟩, .string ⟨#[]⟩, .bool false], .int .i64 22]) ∧ Below W.heap.size W w' := fun W => by
    have h := entry_no dir ⟨name.data.toList, ino, kind⟩ (by rw [Array.length_toList]; exact hn) hi W
    unfold En.v En.cells at h
    dsimp only at h
    rw [bs_of] at h
    exact h
  have kO := fun W => orphan_any ino W
  have k6 := fun W => alive_any W
  obtain ⟨x, v, en, hx⟩ : ∃ (x : Nd) (v : Int), Hid ((bif inoB ino then orNd ino else Nd.zero) = x ∧ (bif inoB ino then (0 : Int) else 22) = v) ∧ x.v = .agg #[.string (bs x.key), .string (bs x.val), .bool x.gone] := ⟨_, _, ⟨rfl, rfl⟩, rfl⟩
  rw [en.out.1, en.out.2, hx] at kO
  generalize bs x.key = K1 at *
  generalize bs x.val = K2 at *
  generalize x.gone = K3 at *
  clear hi hn en hx
  go_enter Try.func3, Try.ntmps3
  go_wp2_with (first
    | (go_at_call 4; refine (kE _).mono ?_; rintro e w1 ⟨rfl, hb⟩; have B1 : Hid (Below w.heap.size w w1) := hb; clear hb kE)
    | (go_at_call 5; refine (kO _).mono ?_; rintro e w2 ⟨rfl, hb⟩; have B2 : Hid (Below w.heap.size w w2) := Below.after (Below.after B1.out (below_new _ _)) hb; clear hb kO)
    | (go_at_call 6; refine (k6 _).mono ?_; rintro e w3 ⟨rfl, hb⟩; have B3 : Hid (Below w.heap.size w w3) := Below.after (Below.after B2.out (below_new _ _)) hb; clear hb k6))
  go_ret
  exact ⟨rfl, B3.out⟩

set_option maxHeartbeats 80000000 in
theorem walk_yes (a : Option Addr) (len cap : Nat) (l : List Nw) (dir ino kind : Int) (name : KK) (w : World) (hl : NArg w a len cap l) (hcap : cap ≤ 1048576) (hu : okU l) (hi : enOk dir ⟨name.data.toList, ino, kind⟩ = true) :
    Calls Try.prog 3 #[.slice a len cap, .int .i64 dir, .int .i64 ino, .string name, .int .i64 kind] w fun e w' => e = .returned (.bool true) ∧ Below w.heap.size w w' := by
  have hnm : nameB name.data.toList = true ∧ inoB ino = true := by
    unfold enOk En.right at hi
    simp only [Bool.and_eq_true] at hi
    exact ⟨hi.2.1.1, hi.2.1.2⟩
  have hn1 : 1 ≤ name.data.toList.length ∧ name.data.toList.length ≤ 24 := by
    refine ⟨?_, name_len hnm.1⟩
    cases h : name.data.toList with
    | nil => rw [h] at hnm; exact absurd hnm.1 (by decide)
    | cons x r => simp
  obtain ⟨EK, hEK⟩ : ∃ K, K = bs (pre3 dir 2 ++ name.data.toList) := ⟨_, rfl⟩
  obtain ⟨EV, hEV⟩ : ∃ K, K = bs (u8s (putL 2 ino.toNat) ++ u8s (putL 1 kind.toNat)) := ⟨_, rfl⟩
  obtain ⟨OK, hOK⟩ : ∃ K, K = bs (pre3 0 4 ++ hi2 ino) := ⟨_, rfl⟩
  have kE : ∀ W, Calls Try.prog 4 #[.int .i64 dir, .agg #[.string name, .int .i64 ino, .int .i64 kind]] W fun e w' => e = .returned (.tuple #[.agg #[.string EK, .string EV, .bool false], .int .i64 0]) ∧ Below W.heap.size W w' := fun W => by
    have h := entry_yes dir ⟨name.data.toList, ino, kind⟩ hi W
    unfold En.v En.cells at h
    dsimp only at h
    rw [bs_of] at h
    rw [hEK, hEV]
    exact h
  have kO : ∀ W, Calls Try.prog 5 #[.int .i64 ino] W fun e w' => e = .returned (.tuple #[.agg #[.string OK, .string ⟨#[]⟩, .bool false], .int .i64 0]) ∧ Below W.heap.size W w' := fun W => by
    have h := orphan_any ino W
    rw [hnm.2] at h
    rw [hOK]
    exact h
  have k6 := fun W => alive_any W
  have zE : EK.size = 3 + name.data.toList.length := by rw [hEK, bs_size, List.length_append, pre3_len]
  have zV : EV.size = 3 := by rw [hEV]; rfl
  have zO : OK.size = 5 := by rw [hOK]; rfl
  have hcE : (Nw.c ⟨EK, EV, false⟩) ≤ 1000 := by unfold Nw.c cst; dsimp only; omega
  have hcO : (Nw.c ⟨OK, ⟨#[]⟩, false⟩) < (Nw.c ⟨EK, EV, false⟩) := by
    unfold Nw.c cst; dsimp only
    rw [show (⟨#[]⟩ : ByteArray).size = 0 from rfl]
    omega
  have hfl : ∀ x ∈ flt l EK OK, x.k ≠ EK ∧ x.k ≠ OK := fun x hx => of_decide_eq_true (List.mem_filter.1 hx).2
  have huf : okU (flt l EK OK) := ⟨by have := flt_len l EK OK; have := hu.1; omega, fun y hy => hu.2 y (List.mem_filter.1 hy).1⟩
  have hlt : aft ((flt l EK OK ++ [⟨EK, EV, false⟩]) ++ [⟨EK, ⟨#[]⟩, true⟩, ⟨OK, ⟨#[]⟩, false⟩]) < aft (flt l EK OK ++ [⟨EK, EV, false⟩]) := orph (E := ⟨EK, EV, false⟩) (O := ⟨OK, ⟨#[]⟩, false⟩) ⟨#[]⟩ rfl rfl hfl hcO huf hcE
  have hroom : roomF (flt l EK OK ++ [⟨EK, EV, false⟩]) [⟨EK, ⟨#[]⟩, true⟩, ⟨OK, ⟨#[]⟩, false⟩] 0 = 0 := by
    unfold roomF
    rw [if_neg (by omega)]
  have HK : Hid (okK (flt l EK OK ++ [⟨EK, EV, false⟩]) ∧ okK [(⟨EK, ⟨#[]⟩, true⟩ : Nw), ⟨OK, ⟨#[]⟩, false⟩]) := by
    show _ ∧ _
    refine ⟨⟨fun y hy => ?_, fun y hy => ?_⟩, ⟨fun y hy => ?_, fun y hy => ?_⟩⟩
    · rcases List.mem_append.1 hy with q | q
      · have := huf.2 y q; omega
      · rw [List.mem_singleton.1 q]; dsimp only; omega
    · rcases List.mem_append.1 hy with q | q
      · have := huf.2 y q; omega
      · rw [List.mem_singleton.1 q]; dsimp only; omega
    · simp only [List.mem_cons, List.not_mem_nil, or_false] at hy
      rcases hy with rfl | rfl <;> dsimp only <;> omega
    · simp only [List.mem_cons, List.not_mem_nil, or_false] at hy
      rcases hy with rfl | rfl <;> exact (by decide : (⟨#[]⟩ : ByteArray).size ≤ 140737488355328)
  have HL : Hid (NArg w a len cap l) := hl
  have hlen := hl.le
  have HRM : Hid (roomF (flt l EK OK ++ [⟨EK, EV, false⟩]) [⟨EK, ⟨#[]⟩, true⟩, ⟨OK, ⟨#[]⟩, false⟩] 0 = 0) := hroom
  have HLT : Hid (aft ((flt l EK OK ++ [⟨EK, EV, false⟩]) ++ [⟨EK, ⟨#[]⟩, true⟩, ⟨OK, ⟨#[]⟩, false⟩]) < aft (flt l EK OK ++ [⟨EK, EV, false⟩])) := hlt
  clear hl hu hi hnm hn1 hEK hEV hOK zE zV zO hcE hcO hfl huf hlt hroom
  go_enter Try.func3, Try.ntmps3
  go_wp2_with (first
    | (go_at_call 4; refine (kE _).mono ?_; rintro e w1 ⟨rfl, hb⟩; have B1 : Hid (Below w.heap.size w w1) := hb; clear hb kE)
    | (go_at_call 5; refine (kO _).mono ?_; rintro e w2 ⟨rfl, hb⟩; have R2 : Hid (Row w2 w1.heap.size [.string EK, .string EV, .bool false] 24) := (Row.new w1 [.string EK, .string EV, .bool false] _).later hb; have B2 : Hid (Below w.heap.size w w2) := Below.after (Below.after B1.out (below_new _ _)) hb; clear hb kO))
  obtain ⟨W, hW⟩ : ∃ W, W = w2.alloc (.cells #[.string OK, .string ⟨#[]⟩, .bool false] 24) := ⟨_, rfl⟩
  have HX : Hid (Bxs W W w1.heap.size w2.heap.size EK EV OK) := by
    rw [hW]
    exact ⟨Below.refl _ _, R2.out.later (below_new _ _), Row.new w2 [.string OK, .string ⟨#[]⟩, .bool false] _⟩
  have HB : Hid (Below w.heap.size w W) := by rw [hW]; exact Below.after B2.out (below_new _ _)
  rw [← hW]
  obtain ⟨p, hp⟩ : ∃ p, p = w1.heap.size := ⟨_, rfl⟩
  obtain ⟨q, hq⟩ : ∃ q, q = w2.heap.size := ⟨_, rfl⟩
  rw [← hp, ← hq] at HX ⊢
  clear hW hp hq R2 B2 B1
  go_loopg [15, 16] len (fun kx s15 s16 wr => ∃ (i : Nat), i + kx = len ∧ s16 = .int .i64 (i : Nat) ∧ Hid (ON wr W.heap.size s15 (flt (l.take i) EK OK).length (flt (l.take i) EK OK) ∧ Bxs W wr p q EK EV OK))
  case atStart => exact ⟨0, by omega, rfl, (⟨⟨rfl, .inl ⟨rfl, rfl⟩⟩, HX.out⟩ : _ ∧ _)⟩
  case round =>
    obtain ⟨i, hi, rfl, I⟩ := hrel
    by_cases hlt : i < len
    · have HN := HL.out.row.later (Below.after HB.out I.out.2.below)
      obtain ⟨b, off, y, rfl, hy, hym, hta, _, q0, q1, q2⟩ := nrow_at HN (i := i) (by have := HL.out.len_eq; omega)
      obtain ⟨na, nc, hv, _⟩ := ON.row rfl I.out.1
      subst hv
      have hi0 : (0 : Int) ≤ (i : Int) := by omega
      have hi1 : (i : Int) < (len : Int) := by omega
      have hbw : b < wr.heap.size := World.block_lt_of_cell? wr _ q0
      have HC : Hid (∀ u : Wd wr, u.v.cell? ⟨b, off + i * 3, none⟩ = some (.string y.k) ∧ u.v.cell? ⟨b, off + i * 3 + 1, none⟩ = some (.string y.v) ∧ u.v.cell? ⟨b, off + i * 3 + 2, none⟩ = some (.bool y.g) ∧ u.v.cell? ⟨p, 0, none⟩ = some (.string EK) ∧ u.v.cell? ⟨q, 0, none⟩ = some (.string OK)) :=
        fun u => ⟨(u.h.cell (p := ⟨b, off + i * 3, none⟩) hbw).trans q0, (u.h.cell (p := ⟨b, off + i * 3 + 1, none⟩) hbw).trans q1, (u.h.cell (p := ⟨b, off + i * 3 + 2, none⟩) hbw).trans q2, (I.out.2.e.later u.h).cell (i := 0) rfl, (I.out.2.o.later u.h).cell (i := 0) rfl⟩
      have HS : Hid (flt (l.take (i + 1)) EK OK = if y.k ≠ EK ∧ y.k ≠ OK then flt (l.take i) EK OK ++ [y] else flt (l.take i) EK OK) := by show _ = _; rw [hta, flt_snoc]
      have hn1 : (flt (l.take i) EK OK).length ≤ len := by have := flt_len (l.take i) EK OK; rw [List.length_take] at this; omega
      obtain ⟨L1, hL1⟩ : ∃ L1, L1 = flt (l.take i) EK OK := ⟨_, rfl⟩
      rw [← hL1] at HS I hn1 ⊢
      obtain ⟨n1, hN1⟩ : ∃ n1, n1 = L1.length := ⟨_, rfl⟩
      have HN1 : Hid (n1 = L1.length) := hN1
      rw [← hN1] at I hn1 ⊢
      clear q0 q1 q2 hta hym hy HN hL1 hN1
      have z0 := fun u => (HC.out u).1
      have z1 := fun u => (HC.out u).2.2.2.1
      have z2 := fun u => (HC.out u).2.2.2.2
      have ne := Wd.non wr
      have stay : y.k = EK ∨ (¬ y.k = EK ∧ y.k = OK) ∨ (¬ y.k = EK ∧ ¬ y.k = OK) := by
        by_cases h1 : y.k = EK
        · exact .inl h1
        · by_cases h2 : y.k = OK
          · exact .inr (.inl ⟨h1, h2⟩)
          · exact .inr (.inr ⟨h1, h2⟩)
      rcases stay with hk | ⟨hk0, hk⟩ | ⟨hk0, hk⟩
      · go_wp2_with fail
        refine quiet_below (by kernel_rfl) ?_
        repeat (first | go_big_quiet_skip | go_big_quiet_step (fail))
        refine wpQuiet_nil ?_
        rintro _ ⟨p7, rfl⟩
        have HE : Hid (ON p7.v W.heap.size (.slice na n1 nc) (flt (l.take (i + 1)) EK OK).length (flt (l.take (i + 1)) EK OK) ∧ Bxs W p7.v p q EK EV OK) := by
          have e := HS.out
          rw [if_neg (fun c => c.1 hk)] at e
          rw [e, ← HN1.out]
          exact (⟨I.out.1.later p7.h, I.out.2.later p7.h⟩ : _ ∧ _)
        clear z0 z1 z2 ne hk I
        go_wp2_with fail
        go_roundg (len - (i + 1))
        case measure => omega
        case rel => exact ⟨i + 1, by omega, by go_num, HE.out⟩
      · have hbq := beq_no hk0
        have HE : Hid (∀ p7 : Wd wr, ON p7.v W.heap.size (.slice na n1 nc) (flt (l.take (i + 1)) EK OK).length (flt (l.take (i + 1)) EK OK) ∧ Bxs W p7.v p q EK EV OK) := fun p7 => by
          have e := HS.out
          rw [if_neg (fun c => c.2 hk)] at e
          rw [e, ← HN1.out]
          exact (⟨I.out.1.later p7.h, I.out.2.later p7.h⟩ : _ ∧ _)
        rw [hk] at hbq z0
        clear hk hk0 I HC
        go_wp2_with fail
        refine quiet_below (by kernel_rfl) ?_
        repeat (first | go_big_quiet_skip | go_big_quiet_step (fail))
        refine wpQuiet_nil ?_
        rintro _ ⟨p7, rfl⟩
        have HE2 := HE.out p7
        have HE3 : Hid (ON p7.v W.heap.size (.slice na n1 nc) (flt (l.take (i + 1)) EK OK).length (flt (l.take (i + 1)) EK OK) ∧ Bxs W p7.v p q EK EV OK) := HE2
        clear z0 z1 z2 ne HE2
        go_wp2_with fail
        go_roundg (len - (i + 1))
        case measure => omega
        case rel => exact ⟨i + 1, by omega, by go_num, HE3.out⟩
      · have hbq := beq_no hk0
        have hbr := beq_no hk
        go_wp2_with fail
        refine quiet_below (by kernel_rfl) ?_
        repeat (first | go_big_quiet_skip | go_big_quiet_step (fail))
        refine wpQuiet_nil ?_
        rintro _ ⟨p7, rfl⟩
        obtain ⟨c0, c1, c2, _⟩ := HC.out p7
        have hbp : b < p7.v.heap.size := Nat.lt_of_lt_of_le hbw p7.h.size
        have HP : Hid (ON p7.v W.heap.size (.slice na n1 nc) n1 L1 ∧ Bxs W p7.v p q EK EV OK) := (⟨I.out.1.later p7.h, I.out.2.later p7.h⟩ : _ ∧ _)
        have HS2 : Hid (flt (l.take (i + 1)) EK OK = L1 ++ [y]) := by have e := HS.out; rw [if_pos ⟨hk0, hk⟩] at e; exact e
        have HQ : Hid (n1 + 1 ≤ maxLen ∧ (n1 + 1) * 40 ≤ 140737488355328) := ⟨by unfold maxLen; omega, by omega⟩
        obtain ⟨V, hV⟩ : ∃ V, V = p7.v := ⟨_, rfl⟩
        rw [← hV] at c0 c1 c2 hbp HP ⊢
        obtain ⟨yk, yv, yg⟩ := y
        dsimp only at c0 c1 c2 hbq hbr
        clear z0 z1 z2 ne hk hk0 I HC hV hbw
        go_wp2_with (at_builtin; refine wpList_append_nws rfl (.tmp 64) (.tmp 69) rfl W.heap.size (.slice na n1 nc) n1 L1 rfl (HP.out.1.later (below_new V _)) (some ⟨V.heap.size, 0, none⟩) 1 1 [⟨yk, yv, yg⟩] rfl rfl (nrow_one V ⟨yk, yv, yg⟩) (fun e => by cases e) HQ.out.1 HQ.out.2 (HP.out.2.later (below_new V _)).below.size ?_; intro v5 w5 ho5 hg5; have HE : Hid (ON w5 W.heap.size v5 (flt (l.take (i + 1)) EK OK).length (flt (l.take (i + 1)) EK OK) ∧ Bxs W w5 p q EK EV OK) := (⟨by rw [HS2.out, List.length_append, ← HN1.out]; exact ho5, Bxs.grown (HP.out.2.later (below_new V _)) HX.out hg5 (fun k hk => World.ownsRow.lt (HP.out.1.later (below_new V _)) k hk)⟩ : _ ∧ _); clear ho5 hg5)
        go_roundg (len - (i + 1))
        case measure => omega
        case rel => exact ⟨i + 1, by omega, by go_num, HE.out⟩
    · have hkl : i = len := by omega
      subst hkl
      have hall : l.take i = l := by rw [HL.out.len_eq, List.take_length]
      rw [hall] at I
      obtain ⟨L1, hL1⟩ : ∃ L1, L1 = flt l EK OK := ⟨_, rfl⟩
      have hn1 : (flt l EK OK).length ≤ i := by have := flt_len l EK OK; have := HL.out.len_eq; omega
      rw [← hL1] at I hn1 HK HLT HRM
      obtain ⟨na, nc, hv, _⟩ := ON.row rfl I.out.1
      obtain ⟨n1, hN1⟩ : ∃ n1, n1 = L1.length := ⟨_, rfl⟩
      have HN1 : Hid (n1 = L1.length) := hN1
      rw [← hN1] at I hn1 hv
      subst hv
      obtain ⟨x0, x1, x2, _, _, _⟩ := I.out.2.e.seen3
      have HQ : Hid (n1 + 1 ≤ maxLen ∧ (n1 + 1) * 40 ≤ 140737488355328) := ⟨by unfold maxLen; omega, by omega⟩
      have hpw := I.out.2.e.lt
      have hqw := I.out.2.o.lt
      obtain ⟨A, eA⟩ : ∃ A, A = aft (L1 ++ [⟨EK, EV, false⟩]) := ⟨_, rfl⟩
      obtain ⟨B, eB⟩ : ∃ B, B = aft ((L1 ++ [⟨EK, EV, false⟩]) ++ two EK OK) := ⟨_, rfl⟩
      have hlt : (B : Int) < (A : Int) := by have h : B < A := by rw [eA, eB]; exact HLT.out
                                             omega
      have HC : Hid (∀ V b c, NArg V b (n1 + 1) c (L1 ++ [⟨EK, EV, false⟩]) → Calls Try.prog 7 #[.slice b (n1 + 1) c, .slice (some ⟨V.heap.size, 0, none⟩) 2 2] (V.alloc (.cells #[.string EK, .string ⟨#[]⟩, .bool true, .string OK, .string ⟨#[]⟩, .bool false] 24)) fun e w' => e = .returned (.tuple #[.int .i64 (A : Int), .int .i64 (B : Int)]) ∧ Below V.heap.size V w') := fun V b c hN => by
        rw [eA, eB]; exact chg V b _ c _ EK OK hN HK.out.2 (by omega)
      have HR : Hid (∀ V b c, NArg V b (n1 + 1) c (L1 ++ [⟨EK, EV, false⟩]) → Calls Try.prog 8 #[.slice b (n1 + 1) c, .slice (some ⟨V.heap.size, 0, none⟩) 2 2, .int .i64 0] (V.alloc (.cells #[.string EK, .string ⟨#[]⟩, .bool true, .string OK, .string ⟨#[]⟩, .bool false] 24)) fun e w' => e = .returned (.int .i64 0) ∧ Below V.heap.size V w') := fun V b c hN => by
        have h := chr V b _ c _ EK OK hN HK.out.2 (by omega)
        rw [HRM.out] at h; exact h
      clear hall hL1 hN1 eA eB HLT HRM
      go_wp2_with (first
        | (at_builtin; refine wpList_append_nws rfl (.tmp 71) (.tmp 73) rfl W.heap.size (.slice na n1 nc) n1 L1 rfl (I.out.1.later (below_new wr _)) (some ⟨wr.heap.size, 0, none⟩) 1 1 [⟨EK, EV, false⟩] rfl rfl (nrow_one wr ⟨EK, EV, false⟩) (fun e => by cases e) HQ.out.1 HQ.out.2 (I.out.2.later (below_new wr _)).below.size ?_; intro v5 w5 ho5 hg5; have H5 : Hid (Bxs W w5 p q EK EV OK) := Bxs.grown (I.out.2.later (below_new wr _)) HX.out hg5 (fun k hk => World.ownsRow.lt (I.out.1.later (below_new wr _)) k hk); obtain ⟨na5, nc5, rfl, hN5⟩ := ON.narg (by rw [List.length_append, ← HN1.out]; rfl) ho5 HK.out.1; have N5 : Hid (NArg w5 na5 (n1 + 1) nc5 (L1 ++ [⟨EK, EV, false⟩])) := hN5; clear ho5 hg5 hN5 x0 x1 x2; obtain ⟨x0, x1, x2, _, _, _⟩ := H5.out.e.seen3; obtain ⟨y0, y1, y2, _, _, _⟩ := H5.out.o.seen3)
        | (go_at_call 7; refine (HC.out _ _ _ N5.out).mono ?_; rintro e w6 ⟨rfl, hb⟩; have H6 : Hid (Bxs W w6 p q EK EV OK) := H5.out.later hb; have N6 : Hid (NArg w6 na5 (n1 + 1) nc5 (L1 ++ [⟨EK, EV, false⟩])) := N5.out.later hb; clear hb x0 x1 x2 y0 y1 y2; obtain ⟨x0, x1, x2, _, _, _⟩ := H6.out.e.seen3; obtain ⟨y0, y1, y2, _, _, _⟩ := H6.out.o.seen3)
        | (go_at_call 8; refine (HR.out _ _ _ N6.out).mono ?_; rintro e w7 ⟨rfl, hb⟩; have B7 : Hid (Below w.heap.size w w7) := Below.after HB.out (H6.out.later hb).below; clear hb)
        | (go_at_call 6; refine (k6 _).mono ?_; rintro e w8 ⟨rfl, hb⟩; have B8 : Hid (Below w.heap.size w w8) := Below.after B7.out hb; clear hb))
      go_ret
      exact ⟨rfl, B8.out⟩
theorem walk (a : Option Addr) (len cap : Nat) (l : List Nw) (dir ino : Int) (name : KK) (kind : Int) (w : World) (hl : NArg w a len cap l ∧ cap ≤ 1048576 ∧ okU l ∧ (a = none → len = 0 ∧ cap = 0)) (_ : (Lit.int .i64 dir).wf = true) (_ : (Lit.int .i64 ino).wf = true) (hn : name.size ≤ maxLen) (_ : (Lit.int .i64 kind).wf = true) :
    Calls Try.prog 3 #[.slice a len cap, .int .i64 dir, .int .i64 ino, .string name, .int .i64 kind] w fun e w' => e = .returned (.bool true) ∧ Below w.heap.size w w' := by
  cases h : enOk dir ⟨name.data.toList, ino, kind⟩ with
  | false => exact walk_no a len cap dir ino kind name w hn h
  | true => exact walk_yes a len cap l dir ino kind name w hl.1 hl.2.1 hl.2.2.1 h

set_option maxRecDepth 100000 in
theorem contract (H : Type) (enc : TypeId × Value → H) (W : World) (base : Nat) (args : Array Value) (ds gs : List (DataW H)) (before : List MemPlace)
    (hval : ∀ (j : Nat) t v, Try.f3.params[j]? = some t → args[j]? = some v → Value.okWide Try.prog W .any base t v)
    (hW : DataW.Whole enc Try.prog Try.f3.params.toList Rows.spaceOrphansSpec.vars false W args.toList ds gs before) (hk : Rows.uptoSmall H (ds ++ gs) = true) :
    Calls Try.prog 3 args W fun e W' => ∃ v, e = .returned v ∧ Rows.spaceOrphansSpec.post enc Try.prog Try.f3 false true false false W args v W' := by
  have hW' := hW
  obtain ⟨p, q, hA0, hV, rfl, hfz, hnd⟩ := hW
  have hA : DataW.TrodAll enc Try.prog W 0 (fun _ => true) true Try.f3.params.toList args.toList ds p := hA0
  rw [Try.params3] at hA hval
  obtain ⟨v0, vs0, d0, ds0, p0, q0, hargs, rfl, rfl, h0, r0⟩ := trodAll_cons hA
  obtain ⟨v1, vs1, d1, ds1, p1, q1, rfl, rfl, rfl, h1, r1⟩ := trodAll_cons r0
  obtain ⟨v2, vs2, d2, ds2, p2, q2, rfl, rfl, rfl, h2, r2⟩ := trodAll_cons r1
  obtain ⟨v3, vs3, d3, ds3, p3, q3, rfl, rfl, rfl, h3, r3⟩ := trodAll_cons r2
  obtain ⟨v4, vs4, d4, ds4, p4, q4, rfl, rfl, rfl, h4, r4⟩ := trodAll_cons r3
  obtain ⟨rfl, rfl, rfl⟩ := trodAll_nil r4
  obtain rfl : args = #[v0, v1, v2, v3, v4] := by cases args; simp_all
  obtain ⟨rfl, rfl⟩ := trodVars_none hV
  simp only [List.append_nil] at hk
  have hb : Rows.uptoBulkAll ([d0, d1, d2, d3, d4] : List (DataW H)) ≤ 1048576 := of_decide_eq_true hk
  simp only [Rows.uptoBulkAll] at hb
  obtain ⟨a0, len0, cap0, rfl⟩ := okWide_slice Try.underlying22 (hval 0 22 v0 rfl rfl)
  have k0 := h0
  have lt0 : ∀ x ∈ p0, x.block < W.heap.size := by obtain ⟨m, hm⟩ := k0; exact DataW.trod_lt m _ _ _ hm
  obtain ⟨l0, w0⟩ : ∃ l, NArg W a0 len0 cap0 l ∧ cap0 ≤ 1048576 ∧ okU l ∧ (a0 = none → len0 = 0 ∧ cap0 = 0) := by
    obtain ⟨fuel, hf⟩ := h0
    obtain ⟨l, hl⟩ := narg_open hf
    obtain ⟨q1, q2, q3⟩ := narg_bulk hl (by omega)
    exact ⟨l, q1, q2, q3, narg_nil hf⟩
  obtain ⟨a1, rfl, rfl, rfl, w1⟩ := open_int Try.underlying3 (hval 1 3 v1 rfl rfl) h1
  obtain ⟨a2, rfl, rfl, rfl, w2⟩ := open_int Try.underlying3 (hval 2 3 v2 rfl rfl) h2
  obtain ⟨a3, rfl, rfl, rfl, w3⟩ := Go.ChangeMaps.open_string Try.underlying9 (hval 3 9 v3 rfl rfl) h3
  obtain ⟨a4, rfl, rfl, rfl, w4⟩ := open_int Try.underlying3 (hval 4 3 v4 rfl rfl) h4
  clear hA0
  refine (walk a0 len0 cap0 l0 a1 a2 a3 a4 W w0 w1 w2 w3 w4).mono fun e W' ⟨he, bel⟩ => ?_
  subst he
  exact ⟨_, rfl, _, _, _, [], _, [], hW', trodAll_mk1 (shut_bool Try.underlying4 _), (trodAll_cons_mk (Below.trod laidOut (by kernel_rfl) (of_decide_eq_true (by kernel_rfl)) k0 bel lt0) (trodAll_cons_mk (shut_int Try.underlying3 w1) (trodAll_cons_mk (shut_int Try.underlying3 w2) (trodAll_cons_mk (Go.ChangeMaps.shut_string Try.underlying9 w3) (trodAll_cons_mk (shut_int Try.underlying3 w4) trodAll_mk0))))), rfl, bel.frame _, fun h => by cases h⟩

set_option maxRecDepth 100000 in
theorem lifted (os : Os) (started : os.Started) (H : Type) (enc : TypeId × Value → H) (F : Stop.Interp) :
    ReturnsInHanded {} Try.checked os 3 .any ((Rows.OpenSpec.upto Rows.spaceOrphansSpec).pre6 enc Try.prog Try.f3 Rows.spaceOrphansUptoRow.domain false) (((Rows.OpenSpec.upto Rows.spaceOrphansSpec).at F).post enc Try.prog Try.f3 false true false false) := by
  refine returnsInHanded_of_cond (C := Try.checked) (s := Rows.OpenSpec.upto Rows.spaceOrphansSpec) (k := Rows.uptoSmall) rfl own started (by kernel_rfl) Try.func3
    (OpenSpec.witness (enc := enc) (C := Try.checked) (s := Rows.OpenSpec.upto Rows.spaceOrphansSpec) (k := Rows.uptoSmall) rfl false ⟨#[], #[.slice none 0 0, .int .i64 0, .int .i64 0, .string ⟨#[]⟩, .int .i64 0], []⟩ 8 (by kernel_rfl) (by kernel_rfl) (by kernel_rfl)
      (x := ([.nil, .lit (.int .i64 0), .lit (.int .i64 0), .lit (.string []), .lit (.int .i64 0)], [], [])) (by kernel_rfl) rfl (by kernel_rfl)) ?_
  intro W base args ds gs before hval hW _ hk _
  exact contract H enc W base args ds gs before hval hW hk

theorem over : Rows.SpaceOrphansUptoSaid :=
  OpenClaim.holds_of_cond 3 Try.f3 rfl rfl rfl rfl rfl rfl rfl ⟨rfl, rfl, rfl, rfl, rfl⟩ rfl rfl rfl rfl rfl (by kernel_rfl) Try.func3 (by kernel_rfl)
    (of_decide_eq_true (by kernel_rfl)) (by unfold Func.isWrapper; first | (rw [if_pos (by decide +kernel)]; kernel_rfl) | (rw [if_neg (by decide +kernel)]; exact ⟨rfl, rfl⟩))
    (fun os started H enc _ F => lifted os started H enc F)
end Go.Proofs.Ytplhlbajgijohab.spaceOrphans

namespace Go.Proofs.Ytplhlbajgijohab
theorem spaceOrphansUpto_holds : Rows.SpaceOrphansUptoSaid := spaceOrphans.over
#print axioms spaceOrphansUpto_holds
end Go.Proofs.Ytplhlbajgijohab
