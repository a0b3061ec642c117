/-
  The document's answers: Entry, Orphan and Block of layer 6.
-/
import Derived.Test.YtefpcdpclpignaaKRIno
import Derived.Test.YtefpcdpclpignaaKParE
import Derived.Deep.RegionHeld
namespace Go.Proofs.Ytefpcdpclpignaa
open Go.RowKit M

set_option maxRecDepth 10000 in
set_option maxHeartbeats 4000000 in
theorem rentry_no (dir : Int) (e : En) (hl : e.name.length ≤ maxLen) (hi : enOk dir e = false) (w : World) :
    Calls Try.prog 27 #[.int .i64 dir, e.v] w fun r w' => r = .returned (.tuple #[Nd.zero.v, .int .i64 22]) ∧ Below w.heap.size w w' := by
  unfold enOk En.right at hi
  have hr := fun W => rright_any e.name hl W
  unfold nameB at hi
  obtain ⟨k, ek⟩ : ∃ k, k = rightOf e.name := ⟨_, rfl⟩
  rw [← ek] at hi hr
  clear ek
  obtain ⟨name, a1, a2⟩ := e
  dsimp only at hi hr
  rw [tyB_two] at hi
  have t1 : decide (1 ≤ a2) = !decide (a2 < 1) := by rw [Bool.eq_iff_iff]; simp
  have t2 : decide (a2 ≤ 3) = !decide (3 < a2) := by rw [Bool.eq_iff_iff]; simp
  rw [t1, t2] at hi
  clear t1 t2
  unfold En.v En.cells
  dsimp only
  obtain ⟨S, eS⟩ : ∃ S, S = bs name := ⟨_, rfl⟩
  rw [← eS] at hr ⊢
  clear eS hl
  obtain ⟨W, hW⟩ : ∃ W, W = (w.alloc (.cells #[.string S, .int .i64 a1, .int .i64 a2] 42)).alloc (.cells #[.string ⟨#[]⟩, .string ⟨#[]⟩, .bool false] 34) := ⟨_, rfl⟩
  obtain ⟨hR1, hR2, hBW⟩ := two_boxes w [.string S, .int .i64 a1, .int .i64 a2] [.string ⟨#[]⟩, .string ⟨#[]⟩, .bool false] 42 34 W hW
  obtain ⟨x0, x1, x2, _, _, _⟩ := hR1.seen3
  obtain ⟨m0, m1, m2, f0, f1, f2⟩ := hR2.seen3
  have HBW : Hid (Below w.heap.size w W) := hBW
  clear hR1 hR2 hBW
  cases e1 : inoB dir
  rotate_left
  cases e2 : (k != 0)
  cases e3 : inoB a1
  rotate_left
  cases e4 : decide (a2 < 1)
  cases e5 : decide (3 < a2)
  · exfalso
    have e2' : (k == 0) = true := by simpa using e2
    rw [e1, e2', e3, e4, e5] at hi
    cases hi
  all_goals
    clear hi
    go_enter Try.func27, Try.ntmps27
    go_wp2_with fail
    rw [← hW]
    clear hW
    go_wp2_with (first
      | (go_at_call 55; refine (rino_any _ _).mono ?_; rintro e wi ⟨rfl, rfl⟩)
      | (go_at_call 56; refine (hr _).mono ?_; rintro e wi ⟨rfl, rfl⟩))
    (try simp only [Exit.inBlock, Exit.then])
    refine bodyPost_ret (v := .tuple #[Nd.zero.v, .int .i64 22]) ?_ rfl ⟨rfl, below_set3 HBW.out (by omega) _ _ _⟩
    rw [results_cell_tmp rfl]
    go_simp
    rfl

set_option maxRecDepth 10000 in
set_option maxHeartbeats 4000000 in
theorem rentry_yes (dir : Int) (e : En) (hi : enOk dir e = true) (w : World) :
    Calls Try.prog 27 #[.int .i64 dir, e.v] w fun r w' => r = .returned (.tuple #[(En.nd dir e).v, .int .i64 0]) ∧ Below w.heap.size w w' := by
  unfold enOk at hi
  rw [Bool.and_eq_true] at hi
  obtain ⟨e1, hi⟩ := hi
  have h24 : e.name.length ≤ 24 := by unfold En.right at hi; rw [Bool.and_eq_true, Bool.and_eq_true] at hi; exact name_len hi.1.1
  have hr := fun W => rright_any e.name (by unfold maxLen; omega) W
  have hr0 : rightOf e.name = 0 := by unfold En.right nameB at hi; simp only [Bool.and_eq_true, beq_iff_eq] at hi; exact hi.1.1
  rw [hr0] at hr
  clear hr0
  obtain ⟨name, b1, b2⟩ := e
  obtain ⟨a1, a2, rfl, rfl, q1, q2⟩ : ∃ a1 a2 : Nat, b1 = (a1 : Int) ∧ b2 = (a2 : Int) ∧ a1 ≤ 4096 ∧ a2 ≤ 3 := by
    simp only [En.right, inoB, tyB, Bool.and_eq_true, decide_eq_true_eq] at hi
    exact ⟨b1.toNat, b2.toNat, by omega, by omega, by omega, by omega⟩
  dsimp only at hr h24
  have d1 : inoB (a1 : Int) = true := by unfold En.right at hi; simp only [Bool.and_eq_true] at hi; exact hi.1.2
  have d2 : decide ((a2 : Int) < 1) = false := by unfold En.right tyB at hi; simp only [Bool.and_eq_true, decide_eq_true_eq] at hi; exact decide_eq_false (by omega)
  have d3 : decide ((3 : Int) < (a2 : Int)) = false := decide_eq_false (by omega)
  show Calls Try.prog 27 #[.int .i64 dir, .agg #[.string (bs name), .int .i64 (a1 : Int), .int .i64 (a2 : Int)]] w fun r w' => r = .returned (.tuple #[.agg #[.string (bs (pre3 dir 2 ++ name)), .string (bs (u8s (putL 2 a1) ++ u8s (putL 1 a2))), .bool false], .int .i64 0]) ∧ Below w.heap.size w w'
  have h1 : ∀ W, Calls Try.prog 63 #[.int .i64 (a1 : Int), .int .i64 2] W fun e w' => e = .returned (.string (bs (u8s (putL 2 a1)))) ∧ Below W.heap.size W w' := fun W => rput_any a1 2 (by omega) (by omega) W
  have h2 : ∀ W, Calls Try.prog 63 #[.int .i64 (a2 : Int), .int .i64 1] W fun e w' => e = .returned (.string (bs (u8s (putL 1 a2)))) ∧ Below W.heap.size W w' := fun W => rput_any a2 1 (by omega) (by omega) W
  have hk := fun W => rentryKey_any dir name (by omega) W
  have HV : Hid (bs (u8s (putL 2 a1)) ++ bs (u8s (putL 1 a2)) = bs (u8s (putL 2 a1) ++ u8s (putL 1 a2))) := bs_app _ _
  have z1 : (bs (u8s (putL 2 a1))).size = 2 := rfl
  have z2 : (bs (u8s (putL 1 a2))).size = 1 := rfl
  obtain ⟨L1, u1⟩ : ∃ L, L = bs (u8s (putL 2 a1)) := ⟨_, rfl⟩
  obtain ⟨L2, u2⟩ : ∃ L, L = bs (u8s (putL 1 a2)) := ⟨_, rfl⟩
  rw [← u1] at h1 HV z1
  rw [← u2] at h2 HV z2
  obtain ⟨V, eV⟩ : ∃ V, V = bs (u8s (putL 2 a1) ++ u8s (putL 1 a2)) := ⟨_, rfl⟩
  rw [← eV] at HV ⊢
  obtain ⟨K, eK⟩ : ∃ K, K = bs (pre3 dir 2 ++ name) := ⟨_, rfl⟩
  rw [← eK] at hk ⊢
  obtain ⟨S, eS⟩ : ∃ S, S = bs name := ⟨_, rfl⟩
  rw [← eS] at hr hk ⊢
  have sa := fun W => str_add L1 L2 2 1 z1 z2 (by omega) W
  clear u1 u2 eV eK eS hi h24 q1 q2
  obtain ⟨W, hW⟩ : ∃ W, W = (w.alloc (.cells #[.string S, .int .i64 (a1 : Int), .int .i64 (a2 : Int)] 42)).alloc (.cells #[.string ⟨#[]⟩, .string ⟨#[]⟩, .bool false] 34) := ⟨_, rfl⟩
  obtain ⟨hR1, hR2, hBW⟩ := two_boxes w [.string S, .int .i64 (a1 : Int), .int .i64 (a2 : Int)] [.string ⟨#[]⟩, .string ⟨#[]⟩, .bool false] 42 34 W hW
  obtain ⟨x0, x1, x2, _, _, _⟩ := hR1.seen3
  have HBW : Hid (Below w.heap.size w W) := hBW
  have HR2 : Hid (Row W (w.heap.size + 1) [.string ⟨#[]⟩, .string ⟨#[]⟩, .bool false] 34) := hR2
  have HC : Hid (∀ w1, Below W.heap.size W w1 → (w1.cell? ⟨w.heap.size, 0, none⟩ = some (.string S) ∧ w1.cell? ⟨w.heap.size, 1, none⟩ = some (.int .i64 (a1 : Int)) ∧ w1.cell? ⟨w.heap.size, 2, none⟩ = some (.int .i64 (a2 : Int)))) := fun w1 hb => by
    have h := hR1.later hb
    exact ⟨h.cell (i := 0) rfl, h.cell (i := 1) rfl, h.cell (i := 2) rfl⟩
  clear hR1 hR2 hBW
  have M1 : Hid True := trivial
  go_enter Try.func27, Try.ntmps27
  go_wp2_with fail
  rw [← hW]
  clear hW
  go_wp2_with (first
    | (go_at_call 55; refine (rino_any _ _).mono ?_; rintro e wi ⟨rfl, rfl⟩)
    | (go_at_call 56; refine (hr _).mono ?_; rintro e wi ⟨rfl, rfl⟩))
  clear hr
  have HB0 : Hid (Below W.heap.size W W) := Below.refl _ _
  go_region_held (fun w' => w'.cell? ⟨w.heap.size, 0, none⟩ = some (.string S) ∧ w'.cell? ⟨w.heap.size, 1, none⟩ = some (.int .i64 (a1 : Int)) ∧ w'.cell? ⟨w.heap.size, 2, none⟩ = some (.int .i64 (a2 : Int))) (first | assumption | go_keep)
    (first
    | (go_at_call 16; refine (hk _).mono ?_; rintro e w7 ⟨rfl, hb⟩; have HB7 : Hid (Below W.heap.size W w7) := undrew hb; have hc7 := HC.out w7 HB7.out; clear hb)
    | (go_at_call 63; clear M1; refine (h1 _).mono ?_; rintro e w1 ⟨rfl, hb⟩; have HB1 : Hid (Below W.heap.size W w1) := Below.after HB7.out hb; have hc1 := HC.out w1 HB1.out; clear hb)
    | (go_at_call 63; refine (h2 _).mono ?_; rintro e w2 ⟨rfl, hb⟩; have HB2 : Hid (Below W.heap.size W w2) := Below.after HB1.out hb; have hc2 := HC.out w2 HB2.out; obtain ⟨m0, m1, m2, f0, f1, f2⟩ := (HR2.out.later HB2.out).seen3; have HB8 : Hid (Below w.heap.size w w2) := Below.after HBW.out HB2.out; clear hb))
  all_goals
    go_wp2
    (try simp only [Exit.inBlock, Exit.then])
    refine bodyPost_ret (v := .tuple #[.agg #[.string K, .string V, .bool false], .int .i64 0]) ?_ rfl ⟨rfl, below_set3 HB8.out (by omega) _ _ _⟩
    rw [results_cell_tmp rfl]
    go_simp
    exact HV.out

theorem rentry_any (dir : Int) (e : En) (hl : e.name.length ≤ maxLen) (w : World) :
    Calls Try.prog 27 #[.int .i64 dir, e.v] w fun r w' => r = .returned (.tuple #[(bif enOk dir e then En.nd dir e else Nd.zero).v, .int .i64 (bif enOk dir e then 0 else 22)]) ∧ Below w.heap.size w w' := by
  cases h : enOk dir e
  · exact rentry_no dir e hl h w
  · exact rentry_yes dir e h w

set_option maxRecDepth 10000 in
set_option maxHeartbeats 1000000 in
theorem rorphan_any (ino : Int) (w : World) :
    Calls Try.prog 31 #[.int .i64 ino] w fun r w' => r = .returned (.tuple #[(bif inoB ino then orNd ino else Nd.zero).v, .int .i64 (bif inoB ino then 0 else 22)]) ∧ Below w.heap.size w w' := by
  have hk := fun W => rorphanKey_any ino W
  have e0 : (orNd ino).v = .agg #[.string (bs (pre3 0 4 ++ hi2 ino)), .string ⟨#[]⟩, .bool false] := rfl
  obtain ⟨K, eK⟩ : ∃ K, K = bs (pre3 0 4 ++ hi2 ino) := ⟨_, rfl⟩
  rw [← eK] at hk e0
  cases e1 : inoB ino
  · go_enter Try.func31, Try.ntmps31
    go_wp2_with (go_at_call 55; refine (rino_any _ _).mono ?_; rintro e wi ⟨rfl, rfl⟩)
    (try simp only [Exit.inBlock, Exit.then])
    refine bodyPost_ret (v := .tuple #[Nd.zero.v, .int .i64 22]) ?_ rfl ⟨rfl, ?_⟩
    · rw [results_cell_tmp rfl]
      go_simp
      rfl
    · first | exact below_set3 (below_new _ _) (Nat.le_refl _) _ _ _ | exact below_new _ _
  · rw [cond_true, e0]
    clear eK e0
    go_enter Try.func31, Try.ntmps31
    go_wp2_with (first
      | (go_at_call 55; refine (rino_any _ _).mono ?_; rintro e wi ⟨rfl, rfl⟩)
      | (go_at_call 20; refine (hk _).mono ?_; rintro e w1 ⟨rfl, hb⟩; obtain ⟨m0, m1, m2, f0, f1, f2⟩ := ((Row.new w [.string ⟨#[]⟩, .string ⟨#[]⟩, .bool false] 34).later hb).seen3; have HB1 : Hid (Below w.heap.size w w1) := Below.after (below_new _ _) hb; clear hb))
    (try simp only [Exit.inBlock, Exit.then])
    refine bodyPost_ret (v := .tuple #[.agg #[.string K, .string ⟨#[]⟩, .bool false], .int .i64 0]) ?_ rfl ⟨rfl, below_set3 HB1.out (Nat.le_refl _) _ _ _⟩
    rw [results_cell_tmp rfl]
    go_simp

set_option maxRecDepth 10000 in
set_option maxHeartbeats 4000000 in
theorem rblock_no (ino block : Int) (a : Option Addr) (n cap : Nat) (h : blOk ino block n = false) (w : World) :
    Calls Try.prog 29 #[.int .i64 ino, .int .i64 block, .slice a n cap] w fun r w' => r = .returned (.tuple #[Nd.zero.v, .int .i64 22]) ∧ Below w.heap.size w w' := by
  unfold blOk at h
  have t1 : blkB block = (!decide (block < 0) && !decide (128 ≤ block)) := by unfold blkB; rw [Bool.eq_iff_iff]; simp; omega
  have t2 : inB n 1 128 = (!((n : Int) == 0) && !decide ((128 : Int) < (n : Int))) := by unfold inB; rw [Bool.eq_iff_iff]; simp; omega
  rw [t1, t2] at h
  clear t1 t2
  cases e1 : inoB ino
  rotate_left
  cases e2 : decide (block < 0)
  cases e3 : decide (128 ≤ block)
  cases e4 : ((n : Int) == 0)
  cases e5 : decide ((128 : Int) < (n : Int))
  · exfalso
    rw [e1, e2, e3, e4, e5] at h
    cases h
  all_goals
    clear h
    go_enter Try.func29, Try.ntmps29
    go_wp2_with (go_at_call 55; refine (rino_any _ _).mono ?_; rintro e wi ⟨rfl, rfl⟩)
    (try simp only [Exit.inBlock, Exit.then])
    refine bodyPost_ret (v := .tuple #[Nd.zero.v, .int .i64 22]) ?_ rfl ⟨rfl, ?_⟩
    · rw [results_cell_tmp rfl]
      go_simp
      rfl
    · first | exact below_set3 (below_new _ _) (Nat.le_refl _) _ _ _ | exact below_new _ _

set_option maxRecDepth 100000 in
set_option maxHeartbeats 4000000 in
theorem rblock_yes (ino block : Int) (a : Option Addr) (n cap : Nat) (l : List Nat) (hn : n = l.length) (h : blOk ino block n = true) (w : World) (hr : BRow w a l) :
    Calls Try.prog 29 #[.int .i64 ino, .int .i64 block, .slice a n cap] w fun r w' => r = .returned (.tuple #[(blNd ino block l).v, .int .i64 0]) ∧ Below w.heap.size w w' := by
  unfold blOk at h
  rw [Bool.and_eq_true, Bool.and_eq_true] at h
  obtain ⟨⟨e1, e2⟩, e3⟩ := h
  have k2 := of_decide_eq_true e2
  have k3 := of_decide_eq_true e3
  have d1 : decide (block < 0) = false := decide_eq_false (by omega)
  have d2 : decide (128 ≤ block) = false := decide_eq_false (by omega)
  have d3 : ((n : Int) == 0) = false := by rw [beq_eq_false_iff_ne]; omega
  have d4 : decide ((128 : Int) < (n : Int)) = false := decide_eq_false (by omega)
  clear e2 e3 k2 k3
  have hk := fun W => rblockKey_any ino block W
  have HCV : Hid (∀ W, Below w.heap.size w W → (convert 43 9 (.slice a n cap)).run Try.prog W = .ok (.string (bs (u8s l))) W) := fun W hb => by rw [hn]; exact conv_row cap (hr.later hb)
  show Calls Try.prog 29 #[.int .i64 ino, .int .i64 block, .slice a n cap] w fun r w' => r = .returned (.tuple #[.agg #[.string (bs (pre3 ino 3 ++ hi2 block)), .string (bs (u8s l)), .bool false], .int .i64 0]) ∧ Below w.heap.size w w'
  obtain ⟨K, eK⟩ : ∃ K, K = bs (pre3 ino 3 ++ hi2 block) := ⟨_, rfl⟩
  obtain ⟨V, eV⟩ : ∃ V, V = bs (u8s l) := ⟨_, rfl⟩
  rw [← eK] at hk ⊢
  rw [← eV] at HCV ⊢
  clear eK eV hn hr
  obtain ⟨W, hW⟩ : ∃ W, W = w.alloc (.cells #[.string ⟨#[]⟩, .string ⟨#[]⟩, .bool false] 34) := ⟨_, rfl⟩
  have HBW : Hid (Below w.heap.size w W) := by rw [hW]; exact below_new _ _
  have HR : Hid (Row W w.heap.size [.string ⟨#[]⟩, .string ⟨#[]⟩, .bool false] 34) := by rw [hW]; exact Row.new w [_, _, _] _
  have c1 := HCV.out W.drew (HBW.out.drew)
  go_enter Try.func29, Try.ntmps29
  go_wp2_with fail
  rw [← hW]
  clear hW
  go_wp2_with (first
    | (go_at_call 55; refine (rino_any _ _).mono ?_; rintro e wi ⟨rfl, rfl⟩)
    | fail)
  go_region_with (go_at_call 18; refine (hk _).mono ?_; rintro e w1 ⟨rfl, hb⟩; have HB1 : Hid (Below w.heap.size w w1) := Below.after HBW.out (undrew hb); obtain ⟨m0, m1, m2, f0, f1, f2⟩ := (HR.out.later (undrew hb)).seen3; have c2 := HCV.out w1 HB1.out; clear hb)
  all_goals
    go_wp2
    (try simp only [Exit.inBlock, Exit.then])
    refine bodyPost_ret (v := .tuple #[.agg #[.string K, .string V, .bool false], .int .i64 0]) ?_ rfl ⟨rfl, below_set3 HB1.out (Nat.le_refl _) _ _ _⟩
    rw [results_cell_tmp rfl]
    go_simp

theorem rblock_any (ino block : Int) (a : Option Addr) (n cap : Nat) (l : List Nat) (hn : n = l.length) (w : World) (hr : BRow w a l) :
    Calls Try.prog 29 #[.int .i64 ino, .int .i64 block, .slice a n cap] w fun r w' => r = .returned (.tuple #[(bif blOk ino block n then blNd ino block l else Nd.zero).v, .int .i64 (bif blOk ino block n then 0 else 22)]) ∧ Below w.heap.size w w' := by
  cases h : blOk ino block n
  · exact rblock_no ino block a n cap h w
  · exact rblock_yes ino block a n cap l hn h w hr
end Go.Proofs.Ytefpcdpclpignaa
