/-
  Entries, blocks and orphans made nodes.
-/
import Derived.Test.YtplhlbajgijohabKIno
namespace Go.Proofs.Ytplhlbajgijohab
open Go.RowKit M

/-- An entry. -/
structure En where
  name : List UInt8
  ino : Int
  kind : Int
def En.cells (e : En) : List Value := [.string (bs e.name), .int .i64 e.ino, .int .i64 e.kind]
def En.v (e : En) : Value := .agg e.cells.toArray
def En.right (e : En) : Bool := nameB e.name && inoB e.ino && tyB e.kind
def En.zero : En := ⟨[], 0, 0⟩
theorem name_len {l : List UInt8} (h : nameB l = true) : l.length ≤ 24 := by
  unfold nameB rightOf at h
  split at h
  · simp at h
  · split at h
    · simp at h
    · split at h
      · simp at h
      · omega

set_option maxRecDepth 10000 in
set_option maxHeartbeats 1000000 in
theorem rightEntry_any (e : En) (hl : e.name.length ≤ maxLen) (w : World) :
    Calls Try.prog 10 #[e.v] w fun r w' => r = .returned (.bool e.right) ∧ Below w.heap.size w w' := by
  obtain ⟨name, a1, a2⟩ := e
  have hn := fun W => isName_any name hl W
  unfold En.right
  show Calls Try.prog 10 #[.agg #[.string (bs name), .int .i64 a1, .int .i64 a2]] w fun r w' => r = .returned (.bool (nameB name && inoB a1 && tyB a2)) ∧ Below w.heap.size w w'
  obtain ⟨S, eS⟩ : ∃ S, S = bs name := ⟨_, rfl⟩
  rw [← eS] at hn ⊢
  obtain ⟨b, eb⟩ : ∃ b, b = nameB name := ⟨_, rfl⟩
  rw [← eb] at hn ⊢
  clear eS eb hl
  cases b
  rotate_left
  cases e1 : inoB a1
  rotate_left
  cases e2 : tyB a2
  all_goals
    go_enter Try.func10, Try.ntmps10
    go_wp2_with (first
      | (go_at_call 23; refine (hn _).mono ?_; rintro e w1 ⟨rfl, hb⟩; obtain ⟨x0, x1, x2, _, _, _⟩ := ((Row.new w [.string S, .int .i64 a1, .int .i64 a2] 29).later hb).seen3; have HB : Hid (Below w.heap.size w w1) := Below.after (below_new _ _) hb; clear hb)
      | (go_at_call 9; refine (isIno_any _ _).mono ?_; rintro e wi ⟨rfl, rfl⟩)
      | (go_at_call 24; refine (isType_any _ _).mono ?_; rintro e wi ⟨rfl, rfl⟩))
    go_ret
    exact ⟨rfl, HB.out⟩

/-- The node of an entry. -/
def En.nd (dir : Int) (e : En) : Nd := ⟨pre3 dir 2 ++ e.name, u8s (putL 2 e.ino.toNat) ++ u8s (putL 1 e.kind.toNat), false⟩
def enOk (dir : Int) (e : En) : Bool := inoB dir && e.right

set_option maxRecDepth 10000 in
set_option maxHeartbeats 4000000 in
theorem entry_no (dir : Int) (e : En) (hl : e.name.length ≤ maxLen) (hi : enOk dir e = false) (w : World) :
    Calls Try.prog 4 #[.int .i64 dir, e.v] w fun r w' => r = .returned (.tuple #[Nd.zero.v, .int .i64 22]) ∧ Below w.heap.size w w' := by
  have hr := fun W => rightEntry_any e hl W
  unfold enOk at hi
  obtain ⟨o, eo⟩ : ∃ o, o = e.right := ⟨_, rfl⟩
  rw [← eo] at hi hr
  clear eo
  obtain ⟨name, a1, a2⟩ := e
  unfold En.v En.cells at hr ⊢
  dsimp only at hr ⊢
  obtain ⟨S, eS⟩ : ∃ S, S = bs name := ⟨_, rfl⟩
  rw [← eS] at hr ⊢
  clear eS hl
  obtain ⟨W, hW⟩ : ∃ W, W = (w.alloc (.cells #[.string S, .int .i64 a1, .int .i64 a2] 29)).alloc (.cells #[.string ⟨#[]⟩, .string ⟨#[]⟩, .bool false] 24) := ⟨_, rfl⟩
  obtain ⟨hR1, hR2, hBW⟩ := two_boxes w [.string S, .int .i64 a1, .int .i64 a2] [.string ⟨#[]⟩, .string ⟨#[]⟩, .bool false] 29 24 W hW
  obtain ⟨x0, x1, x2, _, _, _⟩ := hR1.seen3
  obtain ⟨m0, m1, m2, f0, f1, f2⟩ := hR2.seen3
  have HBW : Hid (Below w.heap.size w W) := hBW
  have HR2 : Hid (Row W (w.heap.size + 1) [.string ⟨#[]⟩, .string ⟨#[]⟩, .bool false] 24) := hR2
  clear hR1 hR2 hBW
  cases e1 : inoB dir
  · go_enter Try.func4, Try.ntmps4
    go_wp2_with fail
    rw [← hW]
    clear hW
    go_wp2_with (go_at_call 9; refine (isIno_any _ _).mono ?_; rintro e wi ⟨rfl, rfl⟩)
    (try simp only [Exit.inBlock, Exit.then])
    refine bodyPost_ret (v := .tuple #[Nd.zero.v, .int .i64 22]) ?_ rfl ⟨rfl, below_set3 HBW.out (by omega) _ _ _⟩
    rw [results_cell_tmp rfl]
    go_simp
    rfl
  · rw [e1] at hi
    obtain rfl : o = false := by simpa using hi
    clear hi
    go_enter Try.func4, Try.ntmps4
    go_wp2_with fail
    rw [← hW]
    clear hW
    go_wp2_with (first
      | (go_at_call 9; refine (isIno_any _ _).mono ?_; rintro e wi ⟨rfl, rfl⟩)
      | (go_at_call 10; refine (hr _).mono ?_; rintro e w1 ⟨rfl, hb⟩; clear x0 x1 x2 m0 m1 m2 f0 f1 f2; obtain ⟨m0, m1, m2, f0, f1, f2⟩ := (HR2.out.later hb).seen3; have HB1 : Hid (Below w.heap.size w w1) := Below.after HBW.out hb; clear hb))
    (try simp only [Exit.inBlock, Exit.then])
    refine bodyPost_ret (v := .tuple #[Nd.zero.v, .int .i64 22]) ?_ rfl ⟨rfl, below_set3 HB1.out (by omega) _ _ _⟩
    rw [results_cell_tmp rfl]
    go_simp
    rfl

set_option maxRecDepth 10000 in
set_option maxHeartbeats 4000000 in
theorem entry_yes (dir : Int) (e : En) (hi : enOk dir e = true) (w : World) :
    Calls Try.prog 4 #[.int .i64 dir, e.v] w fun r w' => r = .returned (.tuple #[(En.nd dir e).v, .int .i64 0]) ∧ Below w.heap.size w w' := by
  unfold enOk at hi
  rw [Bool.and_eq_true] at hi
  obtain ⟨e1, hi⟩ := hi
  have h24 : e.name.length ≤ 24 := by unfold En.right at hi; rw [Bool.and_eq_true, Bool.and_eq_true] at hi; exact name_len hi.1.1
  have hr := fun W => rightEntry_any e (by unfold maxLen; omega) W
  rw [hi] at hr
  obtain ⟨name, b1, b2⟩ := e
  obtain ⟨a1, a2, rfl, rfl, q1, q2⟩ : ∃ a1 a2 : Nat, b1 = (a1 : Int) ∧ b2 = (a2 : Int) ∧ a1 ≤ 4096 ∧ a2 ≤ 3 := by
    simp only [En.right, inoB, tyB, Bool.and_eq_true, decide_eq_true_eq] at hi
    exact ⟨b1.toNat, b2.toNat, by omega, by omega, by omega, by omega⟩
  unfold En.v En.cells at hr
  dsimp only at hr h24
  show Calls Try.prog 4 #[.int .i64 dir, .agg #[.string (bs name), .int .i64 (a1 : Int), .int .i64 (a2 : Int)]] w fun r w' => r = .returned (.tuple #[.agg #[.string (bs (pre3 dir 2 ++ name)), .string (bs (u8s (putL 2 a1) ++ u8s (putL 1 a2))), .bool false], .int .i64 0]) ∧ Below w.heap.size w w'
  have h1 : ∀ W, Calls Try.prog 11 #[.int .i64 (a1 : Int), .int .i64 2] W fun e w' => e = .returned (.string (bs (u8s (putL 2 a1)))) ∧ Below W.heap.size W w' := fun W => low_any a1 2 (by omega) (by omega) W
  have h2 : ∀ W, Calls Try.prog 11 #[.int .i64 (a2 : Int), .int .i64 1] W fun e w' => e = .returned (.string (bs (u8s (putL 1 a2)))) ∧ Below W.heap.size W w' := fun W => low_any a2 1 (by omega) (by omega) W
  have hk := fun W => entryKey_any dir name (by omega) W
  have HV : Hid (bs (u8s (putL 2 a1)) ++ bs (u8s (putL 1 a2)) = bs (u8s (putL 2 a1) ++ u8s (putL 1 a2))) := bs_app _ _
  have z1 : (bs (u8s (putL 2 a1))).size = 2 := rfl
  have z2 : (bs (u8s (putL 1 a2))).size = 1 := rfl
  obtain ⟨L1, u1⟩ : ∃ L, L = bs (u8s (putL 2 a1)) := ⟨_, rfl⟩
  obtain ⟨L2, u2⟩ : ∃ L, L = bs (u8s (putL 1 a2)) := ⟨_, rfl⟩
  rw [← u1] at h1 HV z1
  rw [← u2] at h2 HV z2
  obtain ⟨V, eV⟩ : ∃ V, V = bs (u8s (putL 2 a1) ++ u8s (putL 1 a2)) := ⟨_, rfl⟩
  rw [← eV] at HV ⊢
  obtain ⟨K, eK⟩ : ∃ K, K = bs (pre3 dir 2 ++ name) := ⟨_, rfl⟩
  rw [← eK] at hk ⊢
  obtain ⟨S, eS⟩ : ∃ S, S = bs name := ⟨_, rfl⟩
  rw [← eS] at hr hk ⊢
  have sa := fun W => str_add L1 L2 2 1 z1 z2 (by omega) W
  clear u1 u2 eV eK eS hi h24 q1 q2
  obtain ⟨W, hW⟩ : ∃ W, W = (w.alloc (.cells #[.string S, .int .i64 (a1 : Int), .int .i64 (a2 : Int)] 29)).alloc (.cells #[.string ⟨#[]⟩, .string ⟨#[]⟩, .bool false] 24) := ⟨_, rfl⟩
  obtain ⟨hR1, hR2, hBW⟩ := two_boxes w [.string S, .int .i64 (a1 : Int), .int .i64 (a2 : Int)] [.string ⟨#[]⟩, .string ⟨#[]⟩, .bool false] 29 24 W hW
  obtain ⟨x0, x1, x2, _, _, _⟩ := hR1.seen3
  have HBW : Hid (Below w.heap.size w W) := hBW
  have HR2 : Hid (Row W (w.heap.size + 1) [.string ⟨#[]⟩, .string ⟨#[]⟩, .bool false] 24) := hR2
  have HC : Hid (∀ w1, Below W.heap.size W w1 → (w1.cell? ⟨w.heap.size, 0, none⟩ = some (.string S) ∧ w1.cell? ⟨w.heap.size, 1, none⟩ = some (.int .i64 (a1 : Int)) ∧ w1.cell? ⟨w.heap.size, 2, none⟩ = some (.int .i64 (a2 : Int)))) := fun w1 hb => by
    have h := hR1.later hb
    exact ⟨h.cell (i := 0) rfl, h.cell (i := 1) rfl, h.cell (i := 2) rfl⟩
  clear hR1 hR2 hBW
  have M1 : Hid True := trivial
  go_enter Try.func4, Try.ntmps4
  go_wp2_with fail
  rw [← hW]
  clear hW
  go_wp2_with (first
    | (go_at_call 9; refine (isIno_any _ _).mono ?_; rintro e wi ⟨rfl, rfl⟩)
    | (go_at_call 10; refine (hr _).mono ?_; rintro e w0 ⟨rfl, hb⟩; clear x0 x1 x2; obtain ⟨d0, d1, d2⟩ := HC.out w0 hb; have HB0 : Hid (Below W.heap.size W w0) := hb; clear hb hr))
  go_region_held3 (fun w' => w'.cell? ⟨w.heap.size, 1, none⟩ = some (.int .i64 (a1 : Int)) ∧ w'.cell? ⟨w.heap.size, 2, none⟩ = some (.int .i64 (a2 : Int))) (first | assumption | go_keep)
    (first
    | (go_at_call 11; clear M1; refine (h1 _).mono ?_; rintro e w1 ⟨rfl, hb⟩; have HB1 : Hid (Below W.heap.size W w1) := Below.after HB0.out (undrew hb); have hc1 := (HC.out w1 HB1.out).2; clear hb)
    | (go_at_call 11; refine (h2 _).mono ?_; rintro e w2 ⟨rfl, hb⟩; have HB2 : Hid (Below W.heap.size W w2) := Below.after HB1.out hb; have hc2 := (HC.out w2 HB2.out).2; clear hb))
  obtain ⟨d0, d1, d2⟩ := HC.out w2 HB2.out
  go_wp2_with (go_at_call 12; refine (hk _).mono ?_; rintro e w7 ⟨rfl, hb⟩; obtain ⟨m0, m1, m2, f0, f1, f2⟩ := (HR2.out.later (Below.after HB2.out hb)).seen3; have HB7 : Hid (Below w.heap.size w w7) := Below.after (Below.after HBW.out HB2.out) hb; clear hb)
  (try simp only [Exit.inBlock, Exit.then])
  refine bodyPost_ret (v := .tuple #[.agg #[.string K, .string V, .bool false], .int .i64 0]) ?_ rfl ⟨rfl, below_set3 HB7.out (by omega) _ _ _⟩
  rw [results_cell_tmp rfl]
  go_simp
  exact HV.out

theorem entry_any (dir : Int) (e : En) (hl : e.name.length ≤ maxLen) (w : World) :
    Calls Try.prog 4 #[.int .i64 dir, e.v] w fun r w' => r = .returned (.tuple #[(bif enOk dir e then En.nd dir e else Nd.zero).v, .int .i64 (bif enOk dir e then 0 else 22)]) ∧ Below w.heap.size w w' := by
  cases h : enOk dir e
  · exact entry_no dir e hl h w
  · exact entry_yes dir e h w

/-- The node of an orphan. -/
def orNd (ino : Int) : Nd := ⟨pre3 0 4 ++ hi2 ino, [], false⟩
set_option maxRecDepth 10000 in
set_option maxHeartbeats 1000000 in
theorem orphan_any (ino : Int) (w : World) :
    Calls Try.prog 5 #[.int .i64 ino] w fun r w' => r = .returned (.tuple #[(bif inoB ino then orNd ino else Nd.zero).v, .int .i64 (bif inoB ino then 0 else 22)]) ∧ Below w.heap.size w w' := by
  have hk := fun W => orphanKey_any ino W
  have e0 : (orNd ino).v = .agg #[.string (bs (pre3 0 4 ++ hi2 ino)), .string ⟨#[]⟩, .bool false] := rfl
  obtain ⟨K, eK⟩ : ∃ K, K = bs (pre3 0 4 ++ hi2 ino) := ⟨_, rfl⟩
  rw [← eK] at hk e0
  cases e1 : inoB ino
  · go_enter Try.func5, Try.ntmps5
    go_wp2_with (go_at_call 9; refine (isIno_any _ _).mono ?_; rintro e wi ⟨rfl, rfl⟩)
    (try simp only [Exit.inBlock, Exit.then])
    refine bodyPost_ret (v := .tuple #[Nd.zero.v, .int .i64 22]) ?_ rfl ⟨rfl, ?_⟩
    · rw [results_cell_tmp rfl]
      go_simp
      rfl
    · first | exact below_set3 (below_new _ _) (Nat.le_refl _) _ _ _ | exact below_new _ _
  · rw [cond_true, e0]
    clear eK e0
    go_enter Try.func5, Try.ntmps5
    go_wp2_with (first
      | (go_at_call 9; refine (isIno_any _ _).mono ?_; rintro e wi ⟨rfl, rfl⟩)
      | (go_at_call 13; refine (hk _).mono ?_; rintro e w1 ⟨rfl, hb⟩; obtain ⟨m0, m1, m2, f0, f1, f2⟩ := ((Row.new w [.string ⟨#[]⟩, .string ⟨#[]⟩, .bool false] 24).later hb).seen3; have HB1 : Hid (Below w.heap.size w w1) := Below.after (below_new _ _) hb; clear hb))
    (try simp only [Exit.inBlock, Exit.then])
    refine bodyPost_ret (v := .tuple #[.agg #[.string K, .string ⟨#[]⟩, .bool false], .int .i64 0]) ?_ rfl ⟨rfl, below_set3 HB1.out (Nat.le_refl _) _ _ _⟩
    rw [results_cell_tmp rfl]
    go_simp
end Go.Proofs.Ytplhlbajgijohab
