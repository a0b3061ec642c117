/-
  What a kind of node costs: bare, cost, Inode, Entry, File.
-/
import Derived.Test.YtplhlbajgijohabPN
namespace Go.Proofs.Ytplhlbajgijohab
open Go.ChangeShapes Go.WideShapes Go.ChangeAt Go.RowKit Go.Deep M
set_option maxRecDepth 10000

/-- A node of that kind with nothing of its own. -/
def barK (k : Nat) : KK := if k = 0 then bs (pre3 1 1) else if k = 1 then bs (pre3 1 2) else bs (pre3 1 3 ++ hi2 0)
def barV (k : Nat) : KK := if k = 0 then bs (inVal 2 0 0 0 0 0) else if k = 1 then bs (u8s (putL 2 1) ++ u8s (putL 1 2)) else ⟨#[]⟩
set_option maxHeartbeats 2000000 in
theorem bare_0 (w : World) :
    Calls Try.prog 36 #[.int .i64 0] w fun e w' => e = .returned (.agg #[.string (barK 0), .string (barV 0), .bool false]) ∧ Below w.heap.size w w' := by
  have kn : ∀ W, Calls Try.prog 38 #[.agg #[.int .i64 1, .int .i64 2, .int .i64 0, .int .i64 0, .int .i64 0, .int .i64 0, .int .i64 0]] W fun e w' => e = .returned (.tuple #[.agg #[.string (barK 0), .string (barV 0), .bool false], .int .i64 0]) ∧ Below W.heap.size W w' :=
    fun W => inode_yes ⟨1, 2, 0, 0, 0, 0, 0⟩ (by decide) W
  generalize barK 0 = K at *
  generalize barV 0 = V at *
  obtain ⟨W, hW⟩ : ∃ W, W = (w.alloc (.cells #[.string ⟨#[]⟩, .string ⟨#[]⟩, .bool false] 24)).alloc (.cells #[.string ⟨#[]⟩, .string ⟨#[]⟩, .bool false] 24) := ⟨_, rfl⟩
  obtain ⟨hR1, hR2, hBW⟩ := two_boxes w [.string ⟨#[]⟩, .string ⟨#[]⟩, .bool false] [.string ⟨#[]⟩, .string ⟨#[]⟩, .bool false] 24 24 W hW
  have HBW : Hid (Below w.heap.size w W) := hBW
  have HR1 : Hid (Row W w.heap.size [.string ⟨#[]⟩, .string ⟨#[]⟩, .bool false] 24) := hR1
  have HR2 : Hid (Row W (w.heap.size + 1) [.string ⟨#[]⟩, .string ⟨#[]⟩, .bool false] 24) := hR2
  clear hR1 hR2 hBW
  go_enter Try.func36, Try.ntmps36
  go_wp2_with fail
  rw [← hW]
  clear hW
  go_wp2_with (go_at_call 38; refine (kn _).mono ?_; rintro e w1 ⟨rfl, hb⟩; obtain ⟨m0, m1, m2, f0, f1, f2⟩ := (HR1.out.later hb).seen3; obtain ⟨n0, n1, n2, g0, g1, g2⟩ := (HR2.out.later hb).seen3; have HB1 : Hid (Below w.heap.size w w1) := Below.after HBW.out hb; clear hb)
  (try simp only [Exit.inBlock, Exit.then])
  refine bodyPost_ret (v := .agg #[.string K, .string V, .bool false]) ?_ rfl ⟨rfl, ?_⟩
  · simp only [results, show Try.f36.results = #[.cell 2 24] from rfl]
    go_simp
  · exact below_set3 (below_set3 HB1.out (by omega) _ _ _) (Nat.le_refl _) _ _ _

theorem Row.set3 {W : World} {B : Nat} {a b c : Value} {t : TypeId} (h : Row W B [a, b, c] t) (x y z : Value) : Row (((W.setCell ⟨B, 0, none⟩ x).setCell ⟨B, 1, none⟩ y).setCell ⟨B, 2, none⟩ z) B [x, y, z] t := by
  have h1 := h.set (i := 0) x (by simp)
  have h2 := h1.set (i := 1) y (by simp)
  have h3 := h2.set (i := 2) z (by simp)
  simpa using h3
theorem Row.other3 {W : World} {B C : Nat} {cs : List Value} {t : TypeId} (h : Row W B cs t) (hn : B ≠ C) (x y z : Value) : Row (((W.setCell ⟨C, 0, none⟩ x).setCell ⟨C, 1, none⟩ y).setCell ⟨C, 2, none⟩ z) B cs t :=
  ((h.other _ _ hn).other _ _ hn).other _ _ hn
set_option maxHeartbeats 2000000 in
theorem bare_1 (w : World) :
    Calls Try.prog 36 #[.int .i64 1] w fun e w' => e = .returned (.agg #[.string (barK 1), .string (barV 1), .bool false]) ∧ Below w.heap.size w w' := by
  obtain ⟨X, eX⟩ : ∃ X, X = bs (pre3 1 2 ++ [97]) := ⟨_, rfl⟩
  have kn : ∀ W, Calls Try.prog 4 #[.int .i64 1, .agg #[.string ⟨#[97]⟩, .int .i64 1, .int .i64 2]] W fun e w' => e = .returned (.tuple #[.agg #[.string X, .string (barV 1), .bool false], .int .i64 0]) ∧ Below W.heap.size W w' := by
    rw [eX]; exact fun W => entry_yes 1 ⟨[97], 1, 2⟩ (by decide) W
  have ke : ∀ W, Calls Try.prog 12 #[.int .i64 1, .string ⟨#[]⟩] W fun e w' => e = .returned (.string (barK 1)) ∧ Below W.heap.size W w' :=
    fun W => entryKey_any 1 [] (by decide) W
  clear eX
  generalize barK 1 = K at *
  generalize barV 1 = V at *
  obtain ⟨W, hW⟩ : ∃ W, W = (w.alloc (.cells #[.string ⟨#[]⟩, .string ⟨#[]⟩, .bool false] 24)).alloc (.cells #[.string ⟨#[]⟩, .string ⟨#[]⟩, .bool false] 24) := ⟨_, rfl⟩
  obtain ⟨hR1, hR2, hBW⟩ := two_boxes w [.string ⟨#[]⟩, .string ⟨#[]⟩, .bool false] [.string ⟨#[]⟩, .string ⟨#[]⟩, .bool false] 24 24 W hW
  have HBW : Hid (Below w.heap.size w W) := hBW
  have HR1 : Hid (Row W w.heap.size [.string ⟨#[]⟩, .string ⟨#[]⟩, .bool false] 24) := hR1
  have HR2 : Hid (Row W (w.heap.size + 1) [.string ⟨#[]⟩, .string ⟨#[]⟩, .bool false] 24) := hR2
  clear hR1 hR2 hBW
  go_enter Try.func36, Try.ntmps36
  go_wp2_with fail
  rw [← hW]
  clear hW
  go_wp2_with (first
    | (go_at_call 4; refine (kn _).mono ?_; rintro e w1 ⟨rfl, hb⟩; have R1 : Hid (Row w1 w.heap.size [.string ⟨#[]⟩, .string ⟨#[]⟩, .bool false] 24) := HR1.out.later hb; have R2 : Hid (Row w1 (w.heap.size + 1) [.string ⟨#[]⟩, .string ⟨#[]⟩, .bool false] 24) := HR2.out.later hb; obtain ⟨n0, n1, n2, g0, g1, g2⟩ := R2.out.seen3; have HB1 : Hid (Below w.heap.size w w1) := Below.after HBW.out hb; clear hb)
    | (go_at_call 12; refine (ke _).mono ?_; rintro e w2 ⟨rfl, hb⟩; clear n0 n1 n2 g0 g1 g2; obtain ⟨m0, m1, m2, f0, f1, f2⟩ := ((R1.out.other3 (C := w.heap.size + 1) (by omega) (.string X) (.string V) (.bool false)).later hb).seen3; obtain ⟨n0, n1, n2, g0, g1, g2⟩ := ((R2.out.set3 (.string X) (.string V) (.bool false)).later hb).seen3; have HB2 : Hid (Below w.heap.size w w2) := Below.after (below_set3 HB1.out (by omega) _ _ _) hb; clear hb))
  (try simp only [Exit.inBlock, Exit.then])
  refine bodyPost_ret (v := .agg #[.string K, .string V, .bool false]) ?_ rfl ⟨rfl, ?_⟩
  · simp only [results, show Try.f36.results = #[.cell 2 24] from rfl]
    go_simp
  · exact below_set3 (HB2.out.setCell (by show _ ≤ w.heap.size + 1; omega) _) (Nat.le_refl _) _ _ _
set_option maxHeartbeats 2000000 in
theorem bare_2 (w : World) :
    Calls Try.prog 36 #[.int .i64 2] w fun e w' => e = .returned (.agg #[.string (barK 2), .string (barV 2), .bool false]) ∧ Below w.heap.size w w' := by
  have ke : ∀ W, Calls Try.prog 39 #[.int .i64 1, .int .i64 0] W fun e w' => e = .returned (.string (barK 2)) ∧ Below W.heap.size W w' :=
    fun W => blockKey_any 1 0 W
  have e2 : barV 2 = ⟨#[]⟩ := rfl
  rw [e2]
  clear e2
  generalize barK 2 = K at *
  obtain ⟨W, hW⟩ : ∃ W, W = (w.alloc (.cells #[.string ⟨#[]⟩, .string ⟨#[]⟩, .bool false] 24)).alloc (.cells #[.string ⟨#[]⟩, .string ⟨#[]⟩, .bool false] 24) := ⟨_, rfl⟩
  obtain ⟨hR1, hR2, hBW⟩ := two_boxes w [.string ⟨#[]⟩, .string ⟨#[]⟩, .bool false] [.string ⟨#[]⟩, .string ⟨#[]⟩, .bool false] 24 24 W hW
  have HBW : Hid (Below w.heap.size w W) := hBW
  have HR1 : Hid (Row W w.heap.size [.string ⟨#[]⟩, .string ⟨#[]⟩, .bool false] 24) := hR1
  have HR2 : Hid (Row W (w.heap.size + 1) [.string ⟨#[]⟩, .string ⟨#[]⟩, .bool false] 24) := hR2
  clear hR1 hR2 hBW
  go_enter Try.func36, Try.ntmps36
  go_wp2_with fail
  rw [← hW]
  clear hW
  go_wp2_with (go_at_call 39; refine (ke _).mono ?_; rintro e w2 ⟨rfl, hb⟩; obtain ⟨m0, m1, m2, f0, f1, f2⟩ := (HR1.out.later hb).seen3; obtain ⟨n0, n1, n2, g0, g1, g2⟩ := (HR2.out.later hb).seen3; have HB2 : Hid (Below w.heap.size w w2) := Below.after HBW.out hb; clear hb)
  (try simp only [Exit.inBlock, Exit.then])
  refine bodyPost_ret (v := .agg #[.string K, .string ⟨#[]⟩, .bool false]) ?_ rfl ⟨rfl, ?_⟩
  · simp only [results, show Try.f36.results = #[.cell 2 24] from rfl]
    go_simp
  · exact below_set3 (HB2.out.setCell (by show _ ≤ w.heap.size + 1; omega) _) (Nat.le_refl _) _ _ _

/-- What a node of a kind costs with so many bytes of its own. -/
def cosF (k own : Nat) : Nat := if k = 0 then 83 else if k = 1 then 73 + own + own else 74 + own
theorem sum2b (a b : Nat) (ha : a < 9223372036854775808) (hab : a + b < 9223372036854775808) (W : World) :
    Calls Try.prog 31 #[.int .i64 9223372036854775807, .slice (some ⟨W.heap.size, 0, none⟩) 2 2] (W.alloc (.cells #[.int .i64 (a : Int), .int .i64 (b : Int)] 3)) fun e w' => e = .returned (.int .i64 ((a + b : Nat) : Int)) ∧ (W.alloc (.cells #[.int .i64 (a : Int), .int .i64 (b : Int)] 3)) = w' := by
  have h := sum_any 9223372036854775807 (by decide) (some ⟨W.heap.size, 0, none⟩) 2 2 [a, b] rfl (Nat.le_refl _) (by unfold maxLen; omega) (by intro x hx; simp only [List.mem_cons, List.not_mem_nil, or_false] at hx; omega) _ (irow_new2 W a b 3)
  have e : min 9223372036854775807 [a, b].sum = a + b := by simp only [List.sum_cons, List.sum_nil]; omega
  rw [e] at h
  exact h
set_option maxHeartbeats 2000000 in
theorem cost_0 (w : World) :
    Calls Try.prog 32 #[.int .i64 0, .int .i64 0] w fun e w' => e = .returned (.int .i64 83) ∧ Below w.heap.size w w' := by
  have kb := fun W => bare_0 W
  have kn : ∀ W, Calls Try.prog 16 #[.string (barK 0), .string (barV 0)] W fun e w' => e = .returned (.int .i64 83) ∧ Below W.heap.size W w' :=
    fun W => node_any (barK 0) (barV 0) (by decide) (by decide) W
  generalize barK 0 = K at *
  generalize barV 0 = V at *
  go_enter Try.func32, Try.ntmps32
  go_wp2_with (first
    | (go_at_call 36; refine (kb _).mono ?_; rintro e w1 ⟨rfl, hb⟩; have HB1 : Hid (Below w.heap.size w w1) := hb; clear hb)
    | (go_at_call 16; refine (kn _).mono ?_; rintro e w2 ⟨rfl, hb⟩; have HB2 : Hid (Below w.heap.size w w2) := Below.after HB1.out (Below.after (below_new _ _) hb); clear hb))
  go_ret
  exact ⟨rfl, HB2.out⟩
set_option maxHeartbeats 2000000 in
theorem cost_1 (n : Nat) (hn : n ≤ 140737488355328) (w : World) :
    Calls Try.prog 32 #[.int .i64 1, .int .i64 (n : Int)] w fun e w' => e = .returned (.int .i64 ((73 + n + n : Nat) : Int)) ∧ Below w.heap.size w w' := by
  have kb := fun W => bare_1 W
  have kn : ∀ W, Calls Try.prog 16 #[.string (barK 1), .string (barV 1)] W fun e w' => e = .returned (.int .i64 73) ∧ Below W.heap.size W w' :=
    fun W => node_any (barK 1) (barV 1) (by decide) (by decide) W
  generalize barK 1 = K at *
  generalize barV 1 = V at *
  obtain ⟨a, ea⟩ : ∃ a, a = 73 + n := ⟨_, rfl⟩
  have s1 : ∀ W : World, Calls Try.prog 31 #[.int .i64 9223372036854775807, .slice (some ⟨W.heap.size, 0, none⟩) 2 2] (W.alloc (.cells #[.int .i64 73, .int .i64 (n : Int)] 3)) fun e w' => e = .returned (.int .i64 ((73 + n : Nat) : Int)) ∧ (W.alloc (.cells #[.int .i64 73, .int .i64 (n : Int)] 3)) = w' := fun W => sum2b 73 n (by decide) (by omega) W
  have s2 : ∀ (W : World) (o : Obj), Calls Try.prog 31 #[.int .i64 9223372036854775807, .slice (some ⟨W.heap.size + 1, 0, none⟩) 2 2] ((W.alloc o).alloc (.cells #[.int .i64 (a : Int), .int .i64 (n : Int)] 3)) fun e w' => e = .returned (.int .i64 ((a + n : Nat) : Int)) ∧ ((W.alloc o).alloc (.cells #[.int .i64 (a : Int), .int .i64 (n : Int)] 3)) = w' := by
    intro W o
    have h := sum2b a n (by omega) (by omega) (W.alloc o)
    rw [show (W.alloc o).heap.size = W.heap.size + 1 by simp] at h
    exact h
  rw [← ea] at s1 ⊢
  obtain ⟨c, ec⟩ : ∃ c, c = a + n := ⟨_, rfl⟩
  rw [← ec] at s2 ⊢
  clear ea ec
  have M1 : Hid True := trivial
  go_enter Try.func32, Try.ntmps32
  go_wp2_with (first
    | (go_at_call 36; refine (kb _).mono ?_; rintro e w1 ⟨rfl, hb⟩; have HB1 : Hid (Below w.heap.size w w1) := hb; clear hb)
    | (go_at_call 16; refine (kn _).mono ?_; rintro e w2 ⟨rfl, hb⟩; have HB2 : Hid (Below w.heap.size w w2) := Below.after HB1.out (Below.after (below_new _ _) hb); clear hb)
    | (go_at_call 31; clear M1; refine (s1 _).mono ?_; rintro e w3 ⟨rfl, rfl⟩; clear s1)
    | (go_at_call 31; refine (s2 _ _).mono ?_; rintro e w3 ⟨rfl, rfl⟩))
  go_ret
  exact ⟨rfl, Below.after (Below.after HB2.out (below_new _ _)) (below_new _ _)⟩
set_option maxHeartbeats 2000000 in
theorem cost_2 (n : Nat) (hn : n ≤ 140737488355328) (w : World) :
    Calls Try.prog 32 #[.int .i64 2, .int .i64 (n : Int)] w fun e w' => e = .returned (.int .i64 ((74 + n : Nat) : Int)) ∧ Below w.heap.size w w' := by
  have kb := fun W => bare_2 W
  have kn : ∀ W, Calls Try.prog 16 #[.string (barK 2), .string (barV 2)] W fun e w' => e = .returned (.int .i64 74) ∧ Below W.heap.size W w' :=
    fun W => node_any (barK 2) (barV 2) (by decide) (by decide) W
  generalize barK 2 = K at *
  generalize barV 2 = V at *
  have s1 := fun W => sum2b 74 n (by decide) (by omega) W
  obtain ⟨c, ec⟩ : ∃ c, c = 74 + n := ⟨_, rfl⟩
  rw [← ec] at s1 ⊢
  clear ec
  go_enter Try.func32, Try.ntmps32
  go_wp2_with (first
    | (go_at_call 36; refine (kb _).mono ?_; rintro e w1 ⟨rfl, hb⟩; have HB1 : Hid (Below w.heap.size w w1) := hb; clear hb)
    | (go_at_call 16; refine (kn _).mono ?_; rintro e w2 ⟨rfl, hb⟩; have HB2 : Hid (Below w.heap.size w w2) := Below.after HB1.out (Below.after (below_new _ _) hb); clear hb)
    | (go_at_call 31; refine (s1 _).mono ?_; rintro e w3 ⟨rfl, rfl⟩))
  go_ret
  exact ⟨rfl, Below.after HB2.out (below_new _ _)⟩
theorem inodeC_any (w : World) : Calls Try.prog 17 #[] w fun e w' => e = .returned (.int .i64 83) ∧ Below w.heap.size w w' := by
  have k0 := fun W => cost_0 W
  go_enter Try.func17, Try.ntmps17
  go_wp2_with (go_at_call 32; refine (k0 _).mono ?_; rintro e w1 ⟨rfl, hb⟩)
  go_ret
  exact ⟨rfl, hb⟩
theorem entryC_any (s : KK) (hs : s.size ≤ 140737488355328) (w : World) : Calls Try.prog 18 #[.string s] w fun e w' => e = .returned (.int .i64 ((73 + s.size + s.size : Nat) : Int)) ∧ Below w.heap.size w w' := by
  have k0 := fun W => cost_1 s.size hs W
  go_enter Try.func18, Try.ntmps18
  go_wp2_with (go_at_call 32; refine (k0 _).mono ?_; rintro e w1 ⟨rfl, hb⟩)
  go_ret
  exact ⟨rfl, hb⟩
/-- A size between none and the greatest. -/
def clampF (n : Int) : Nat := if n < 0 then 0 else if 16384 < n then 16384 else n.toNat
theorem clamp_le (n : Int) : clampF n ≤ 16384 := by unfold clampF; split; omega; split; omega; omega
/-- What all blocks of a file cost. -/
def filF (s : Nat) : Nat := s / 128 * 202 + if 0 < s % 128 then 74 + s % 128 else 0
set_option maxHeartbeats 2000000 in
theorem fileC_any (n : Int) (w : World) : Calls Try.prog 19 #[.int .i64 n] w fun e w' => e = .returned (.int .i64 ((filF (clampF n) : Nat) : Int)) ∧ Below w.heap.size w w' := by
  obtain ⟨s, es⟩ : ∃ s, s = clampF n := ⟨_, rfl⟩
  have hs : s ≤ 16384 := by rw [es]; exact clamp_le n
  have hmm : min (max n 0) 16384 = (s : Int) := by rw [es]; unfold clampF; split; omega; split; omega; omega
  rw [← es]
  have k1 : ∀ W, Calls Try.prog 32 #[.int .i64 2, .int .i64 128] W fun e w' => e = .returned (.int .i64 202) ∧ Below W.heap.size W w' := fun W => cost_2 128 (by decide) W
  obtain ⟨q, eq⟩ : ∃ q, q = s / 128 := ⟨_, rfl⟩
  obtain ⟨r, er⟩ : ∃ r, r = s % 128 := ⟨_, rfl⟩
  have hq : ((s : Int)).tdiv 128 = (q : Int) := by rw [Int.tdiv_eq_ediv_of_nonneg (by omega)]; omega
  have hr : ((s : Int)).tmod 128 = (r : Int) := by rw [Int.tmod_eq_emod_of_nonneg (by omega)]; omega
  have k2 := fun W => cost_2 r (by omega) W
  have HF : Hid (filF s = q * 202 + if 0 < r then 74 + r else 0) := by show _ = _; rw [eq, er]; rfl
  have hq1 : (q : Int) ≤ 128 := by omega
  have hr1 : r < 128 := by omega
  obtain ⟨F, eF⟩ : ∃ F, F = filF s := ⟨_, rfl⟩
  rw [← eF] at HF ⊢
  clear es eq er eF
  by_cases h0 : 0 < r
  · have HF2 : Hid (F = q * 202 + (74 + r)) := by show _ = _; rw [HF.out, if_pos h0]
    have hr0 : (0 : Int) < (r : Int) := by omega
    have M1 : Hid True := trivial
    obtain ⟨c, ec⟩ : ∃ c, c = 74 + r := ⟨_, rfl⟩
    rw [← ec] at k2 HF2
    have hc : (c : Int) ≤ 202 := by omega
    clear ec HF h0
    go_enter Try.func19, Try.ntmps19
    go_wp2_with (first
      | (go_at_call 32; clear M1; refine (k1 _).mono ?_; rintro e w1 ⟨rfl, hb⟩; have HB1 : Hid (Below w.heap.size w w1) := hb; clear hb k1)
      | (go_at_call 32; refine (k2 _).mono ?_; rintro e w2 ⟨rfl, hb⟩; have HB2 : Hid (Below w.heap.size w w2) := Below.after HB1.out hb; clear hb))
    go_ret
    exact ⟨ret_int (by rw [HF2.out]; go_num), HB2.out⟩
  · have HF2 : Hid (F = q * 202) := by show _ = _; rw [HF.out, if_neg h0]; rfl
    have hr0 : ¬ (0 : Int) < (r : Int) := by omega
    clear HF h0
    go_enter Try.func19, Try.ntmps19
    go_wp2_with (go_at_call 32; refine (k1 _).mono ?_; rintro e w1 ⟨rfl, hb⟩; have HB1 : Hid (Below w.heap.size w w1) := hb; clear hb k1)
    go_ret
    exact ⟨ret_int (by rw [HF2.out]; go_num), HB1.out⟩
end Go.Proofs.Ytplhlbajgijohab
