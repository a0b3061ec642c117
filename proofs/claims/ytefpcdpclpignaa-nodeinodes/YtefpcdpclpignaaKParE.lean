/-
  Blocks made nodes; what ParseEntry of package node answers.
-/
import Derived.Test.YtefpcdpclpignaaKEnt
namespace Go.Proofs.Ytefpcdpclpignaa
open Go.RowKit M

/-- The node of a block. -/
def blNd (ino block : Int) (l : List Nat) : Nd := ⟨pre3 ino 3 ++ hi2 block, u8s l, false⟩
def blOk (ino block : Int) (n : Nat) : Bool := inoB ino && blkB block && inB n 1 128

set_option maxRecDepth 10000 in
set_option maxHeartbeats 4000000 in
theorem block_no (ino block : Int) (a : Option Addr) (n cap : Nat) (h : blOk ino block n = false) (w : World) :
    Calls Try.prog 28 #[.int .i64 ino, .int .i64 block, .slice a n cap] w fun r w' => r = .returned (.tuple #[Nd.zero.v, .int .i64 22]) ∧ Below w.heap.size w w' := by
  unfold blOk at h
  cases e1 : inoB ino
  rotate_left
  cases e2 : blkB block
  rotate_left
  obtain e3 : inB n 1 128 = false := by rw [e1, e2] at h; simpa using h
  all_goals
    clear h
    go_enter Try.func28, Try.ntmps28
    go_wp2_with (first
      | (go_at_call 52; refine (isIno_any _ _).mono ?_; rintro e wi ⟨rfl, rfl⟩)
      | (go_at_call 51; refine (isBlock_any _ _).mono ?_; rintro e wi ⟨rfl, rfl⟩)
      | (go_at_call 68; refine (within_in _ _ _ _).mono ?_; rintro e wi ⟨rfl, rfl⟩))
    (try simp only [Exit.inBlock, Exit.then])
    refine bodyPost_ret (v := .tuple #[Nd.zero.v, .int .i64 22]) ?_ rfl ⟨rfl, ?_⟩
    · rw [results_cell_tmp rfl]
      go_simp
      rfl
    · first | exact below_set3 (below_new _ _) (Nat.le_refl _) _ _ _ | exact below_new _ _

set_option maxRecDepth 100000 in
set_option maxHeartbeats 4000000 in
theorem block_yes (ino block : Int) (a : Option Addr) (n cap : Nat) (l : List Nat) (hn : n = l.length) (h : blOk ino block n = true) (w : World) (hr : BRow w a l) :
    Calls Try.prog 28 #[.int .i64 ino, .int .i64 block, .slice a n cap] w fun r w' => r = .returned (.tuple #[(blNd ino block l).v, .int .i64 0]) ∧ Below w.heap.size w w' := by
  unfold blOk at h
  rw [Bool.and_eq_true, Bool.and_eq_true] at h
  obtain ⟨⟨e1, e2⟩, e3⟩ := h
  have hk := fun W => blockKey_any ino block W
  have HCV : Hid (∀ W, Below w.heap.size w W → (convert 43 9 (.slice a n cap)).run Try.prog W = .ok (.string (bs (u8s l))) W) := fun W hb => by rw [hn]; exact conv_row cap (hr.later hb)
  show Calls Try.prog 28 #[.int .i64 ino, .int .i64 block, .slice a n cap] w fun r w' => r = .returned (.tuple #[.agg #[.string (bs (pre3 ino 3 ++ hi2 block)), .string (bs (u8s l)), .bool false], .int .i64 0]) ∧ Below w.heap.size w w'
  obtain ⟨K, eK⟩ : ∃ K, K = bs (pre3 ino 3 ++ hi2 block) := ⟨_, rfl⟩
  obtain ⟨V, eV⟩ : ∃ V, V = bs (u8s l) := ⟨_, rfl⟩
  rw [← eK] at hk ⊢
  rw [← eV] at HCV ⊢
  clear eK eV hn hr
  obtain ⟨W, hW⟩ : ∃ W, W = w.alloc (.cells #[.string ⟨#[]⟩, .string ⟨#[]⟩, .bool false] 34) := ⟨_, rfl⟩
  have HBW : Hid (Below w.heap.size w W) := by rw [hW]; exact below_new _ _
  have HR : Hid (Row W w.heap.size [.string ⟨#[]⟩, .string ⟨#[]⟩, .bool false] 34) := by rw [hW]; exact Row.new w [_, _, _] _
  have c1 := HCV.out W.drew (HBW.out.drew)
  go_enter Try.func28, Try.ntmps28
  go_wp2_with fail
  rw [← hW]
  clear hW
  go_wp2_with (first
    | (go_at_call 52; refine (isIno_any _ _).mono ?_; rintro e wi ⟨rfl, rfl⟩)
    | (go_at_call 51; refine (isBlock_any _ _).mono ?_; rintro e wi ⟨rfl, rfl⟩)
    | (go_at_call 68; refine (within_in _ _ _ _).mono ?_; rintro e wi ⟨rfl, rfl⟩))
  go_region_with (go_at_call 17; refine (hk _).mono ?_; rintro e w1 ⟨rfl, hb⟩; have HB1 : Hid (Below w.heap.size w w1) := Below.after HBW.out (undrew hb); obtain ⟨m0, m1, m2, f0, f1, f2⟩ := (HR.out.later (undrew hb)).seen3; have c2 := HCV.out w1 HB1.out; clear hb)
  all_goals
    go_wp2
    (try simp only [Exit.inBlock, Exit.then])
    refine bodyPost_ret (v := .tuple #[.agg #[.string K, .string V, .bool false], .int .i64 0]) ?_ rfl ⟨rfl, below_set3 HB1.out (Nat.le_refl _) _ _ _⟩
    rw [results_cell_tmp rfl]
    go_simp

theorem block_any (ino block : Int) (a : Option Addr) (n cap : Nat) (l : List Nat) (hn : n = l.length) (w : World) (hr : BRow w a l) :
    Calls Try.prog 28 #[.int .i64 ino, .int .i64 block, .slice a n cap] w fun r w' => r = .returned (.tuple #[(bif blOk ino block n then blNd ino block l else Nd.zero).v, .int .i64 (bif blOk ino block n then 0 else 22)]) ∧ Below w.heap.size w w' := by
  cases h : blOk ino block n
  · exact block_no ino block a n cap h w
  · exact block_yes ino block a n cap l hn h w hr

theorem results_tmp_cell_tmp {fn : Func} {q p u : Tmp} {ty : TypeId} (h : fn.results = #[.tmp q, .cell p ty, .tmp u]) (tmps : Array Value) (P : Program) (w : World) :
    (results fn tmps).run P w =
      ((asAddr (tmps.getD p undef)).run P w).andThen fun a w₁ => ((loadVar ty a).run P w₁).andThen fun v w₂ => .ok (.tuple #[tmps.getD q undef, v, tmps.getD u undef]) w₂ := by
  simp only [results, h]
  simp [Sem.run_bind, Result.andThen]

set_option maxRecDepth 10000 in
set_option maxHeartbeats 4000000 in
theorem pen_gone (K V S : ByteArray) (r0 r1 r2 : List UInt8) (s0 s1 s2 : Bool) (k dir f1 f2 : Nat) (b : Int) (w : World)
    (hK : ∀ W, Calls Try.prog 9 #[.string K] W fun e w' => e = .returned (.tuple #[.int .i64 (k : Int), .int .i64 (dir : Int), .string S, .int .i64 b]) ∧ Below W.heap.size W w')
    (hV : ∀ W, Calls Try.prog 64 #[.string V] W fun e w' => e = .returned (.pointer (some ⟨W.heap.size, 0, none⟩)) ∧ Rd w' W.heap.size 80 r0 s0 ∧ Below W.heap.size W w')
    (h1 : FieldAt 2 r0 r1 s0 s1 f1) (h2 : FieldAt 1 r1 r2 s1 s2 f2)
    (d o : Bool) (_hd : VDoneAt r2 s2 d) (_ho : ∀ W, Calls Try.prog 67 #[.agg #[.string S, .int .i64 (f1 : Int), .int .i64 (f2 : Int)]] W fun e w' => e = .returned (.bool o) ∧ Below W.heap.size W w') :
    Calls Try.prog 32 #[.agg #[.string K, .string V, .bool true]] w fun e w' => e = .returned (.tuple #[.int .i64 0, .agg #[.string ⟨#[]⟩, .int .i64 0, .int .i64 0], .bool false]) ∧ Below w.heap.size w w' := by
  obtain ⟨W, hW⟩ : ∃ W, W = (w.alloc (.cells #[.string K, .string V, .bool true] 34)).alloc (.cells #[.string ⟨#[]⟩, .int .i64 0, .int .i64 0] 42) := ⟨_, rfl⟩
  obtain ⟨hR1, hR2, hBW⟩ := two_boxes w [.string K, .string V, .bool true] [.string ⟨#[]⟩, .int .i64 0, .int .i64 0] 34 42 W hW
  obtain ⟨x0, x1, x2, _, _, _⟩ := hR1.seen3
  have HBW : Hid (Below w.heap.size w W) := hBW
  have HR1 : Hid (Row W w.heap.size [.string K, .string V, .bool true] 34) := hR1
  have HR2 : Hid (Row W (w.heap.size + 1) [.string ⟨#[]⟩, .int .i64 0, .int .i64 0] 42) := hR2
  clear hR1 hR2 hBW
  have M1 : Hid True := trivial
  go_enter Try.func32, Try.ntmps32
  go_wp2_with fail
  rw [← hW]
  clear hW
  go_wp2_with (first
    | (go_at_call 9; refine (hK _).mono ?_; rintro e w1 ⟨rfl, hb⟩; have HB1 : Hid (Below W.heap.size W w1) := hb; clear x0 x1 x2; obtain ⟨x0, x1, x2, _, _, _⟩ := (HR1.out.later hb).seen3; clear hb)
    | (go_at_call 64; refine (hV _).mono ?_; rintro e w2 ⟨rfl, hr, hb⟩; have P0 : Hid (PI w w2 w1.heap.size [.string K, .string V, .bool true] [.string ⟨#[]⟩, .int .i64 0, .int .i64 0] 34 42 80 r0 s0) := PI.start HR1.out HR2.out HBW.out HB1.out hr hb; clear hr hb x0 x1 x2)
    | (go_at_call 65; clear M1; refine (h1 _ _ P0.out.rd).mono ?_; rintro e w3 ⟨rfl, p⟩; have P1 : Hid (PI w w3 w1.heap.size [.string K, .string V, .bool true] [.string ⟨#[]⟩, .int .i64 0, .int .i64 0] 34 42 80 r1 s1) := P0.out.step p; clear p)
    | (go_at_call 65; refine (h2 _ _ P1.out.rd).mono ?_; rintro e w4 ⟨rfl, p⟩; have P2 : Hid (PI w w4 w1.heap.size [.string K, .string V, .bool true] [.string ⟨#[]⟩, .int .i64 0, .int .i64 0] 34 42 80 r2 s2) := P1.out.step p; clear p; obtain ⟨x0, x1, x2, _, _, _⟩ := P2.out.r1.seen3; obtain ⟨m0, m1, m2, g0, g1, g2⟩ := P2.out.r2.seen3; have P7 : Hid (PI w (w4.alloc (.cells #[.string S, .int .i64 (f1 : Int), .int .i64 (f2 : Int)] 42)) w1.heap.size [.string K, .string V, .bool true] [.string ⟨#[]⟩, .int .i64 0, .int .i64 0] 34 42 80 r2 s2) := P2.out.later (below_new _ _); obtain ⟨y0, y1, y2, _, _, _⟩ := P7.out.r1.seen3; obtain ⟨n0, n1, n2, j0, j1, j2⟩ := P7.out.r2.seen3; have R7 : Hid (Row (w4.alloc (.cells #[.string S, .int .i64 (f1 : Int), .int .i64 (f2 : Int)] 42)) w4.heap.size [.string S, .int .i64 (f1 : Int), .int .i64 (f2 : Int)] 42) := Row.new w4 [.string S, .int .i64 (f1 : Int), .int .i64 (f2 : Int)] 42)
    | (go_at_call 53; refine (hd _ _ P7.out.rd).mono ?_; rintro e w9 ⟨rfl, rfl⟩)
    | (go_at_call 67; clear m0 m1 m2 g0 g1 g2 n0 n1 n2 j0 j1 j2 x0 x1 x2 y0 y1 y2; refine (ho _).mono ?_; rintro e w9 ⟨rfl, hb⟩; have P9 : Hid (PI w w9 w1.heap.size [.string K, .string V, .bool true] [.string ⟨#[]⟩, .int .i64 0, .int .i64 0] 34 42 80 r2 s2) := P7.out.later hb; have R9 : Hid (Row w9 w4.heap.size [.string S, .int .i64 (f1 : Int), .int .i64 (f2 : Int)] 42) := R7.out.later hb; obtain ⟨m0, m1, m2, g0, g1, g2⟩ := P9.out.r2.seen3; obtain ⟨n0, n1, n2, _, _, _⟩ := R9.out.seen3; clear hb))
  (try simp only [Exit.inBlock, Exit.then])
  refine bodyPost_ret (v := .tuple #[.int .i64 0, .agg #[.string ⟨#[]⟩, .int .i64 0, .int .i64 0], .bool false]) ?_ rfl ⟨rfl, below_set3 P7.out.bel (by omega) _ _ _⟩
  rw [results_tmp_cell_tmp rfl]
  go_simp

set_option maxRecDepth 10000 in
set_option maxHeartbeats 4000000 in
theorem pen_kind (K V S : ByteArray) (r0 r1 r2 : List UInt8) (s0 s1 s2 : Bool) (k dir f1 f2 : Nat) (b : Int) (w : World)
    (hK : ∀ W, Calls Try.prog 9 #[.string K] W fun e w' => e = .returned (.tuple #[.int .i64 (k : Int), .int .i64 (dir : Int), .string S, .int .i64 b]) ∧ Below W.heap.size W w')
    (hV : ∀ W, Calls Try.prog 64 #[.string V] W fun e w' => e = .returned (.pointer (some ⟨W.heap.size, 0, none⟩)) ∧ Rd w' W.heap.size 80 r0 s0 ∧ Below W.heap.size W w')
    (h1 : FieldAt 2 r0 r1 s0 s1 f1) (h2 : FieldAt 1 r1 r2 s1 s2 f2)
    (d o : Bool) (hk : ((k : Int) != 2) = true) (_hd : VDoneAt r2 s2 d) (_ho : ∀ W, Calls Try.prog 67 #[.agg #[.string S, .int .i64 (f1 : Int), .int .i64 (f2 : Int)]] W fun e w' => e = .returned (.bool o) ∧ Below W.heap.size W w') :
    Calls Try.prog 32 #[.agg #[.string K, .string V, .bool false]] w fun e w' => e = .returned (.tuple #[.int .i64 0, .agg #[.string ⟨#[]⟩, .int .i64 0, .int .i64 0], .bool false]) ∧ Below w.heap.size w w' := by
  obtain ⟨W, hW⟩ : ∃ W, W = (w.alloc (.cells #[.string K, .string V, .bool false] 34)).alloc (.cells #[.string ⟨#[]⟩, .int .i64 0, .int .i64 0] 42) := ⟨_, rfl⟩
  obtain ⟨hR1, hR2, hBW⟩ := two_boxes w [.string K, .string V, .bool false] [.string ⟨#[]⟩, .int .i64 0, .int .i64 0] 34 42 W hW
  obtain ⟨x0, x1, x2, _, _, _⟩ := hR1.seen3
  have HBW : Hid (Below w.heap.size w W) := hBW
  have HR1 : Hid (Row W w.heap.size [.string K, .string V, .bool false] 34) := hR1
  have HR2 : Hid (Row W (w.heap.size + 1) [.string ⟨#[]⟩, .int .i64 0, .int .i64 0] 42) := hR2
  clear hR1 hR2 hBW
  have M1 : Hid True := trivial
  go_enter Try.func32, Try.ntmps32
  go_wp2_with fail
  rw [← hW]
  clear hW
  go_wp2_with (first
    | (go_at_call 9; refine (hK _).mono ?_; rintro e w1 ⟨rfl, hb⟩; have HB1 : Hid (Below W.heap.size W w1) := hb; clear x0 x1 x2; obtain ⟨x0, x1, x2, _, _, _⟩ := (HR1.out.later hb).seen3; clear hb)
    | (go_at_call 64; refine (hV _).mono ?_; rintro e w2 ⟨rfl, hr, hb⟩; have P0 : Hid (PI w w2 w1.heap.size [.string K, .string V, .bool false] [.string ⟨#[]⟩, .int .i64 0, .int .i64 0] 34 42 80 r0 s0) := PI.start HR1.out HR2.out HBW.out HB1.out hr hb; clear hr hb x0 x1 x2)
    | (go_at_call 65; clear M1; refine (h1 _ _ P0.out.rd).mono ?_; rintro e w3 ⟨rfl, p⟩; have P1 : Hid (PI w w3 w1.heap.size [.string K, .string V, .bool false] [.string ⟨#[]⟩, .int .i64 0, .int .i64 0] 34 42 80 r1 s1) := P0.out.step p; clear p)
    | (go_at_call 65; refine (h2 _ _ P1.out.rd).mono ?_; rintro e w4 ⟨rfl, p⟩; have P2 : Hid (PI w w4 w1.heap.size [.string K, .string V, .bool false] [.string ⟨#[]⟩, .int .i64 0, .int .i64 0] 34 42 80 r2 s2) := P1.out.step p; clear p; obtain ⟨x0, x1, x2, _, _, _⟩ := P2.out.r1.seen3; obtain ⟨m0, m1, m2, g0, g1, g2⟩ := P2.out.r2.seen3; have P7 : Hid (PI w (w4.alloc (.cells #[.string S, .int .i64 (f1 : Int), .int .i64 (f2 : Int)] 42)) w1.heap.size [.string K, .string V, .bool false] [.string ⟨#[]⟩, .int .i64 0, .int .i64 0] 34 42 80 r2 s2) := P2.out.later (below_new _ _); obtain ⟨y0, y1, y2, _, _, _⟩ := P7.out.r1.seen3; obtain ⟨n0, n1, n2, j0, j1, j2⟩ := P7.out.r2.seen3; have R7 : Hid (Row (w4.alloc (.cells #[.string S, .int .i64 (f1 : Int), .int .i64 (f2 : Int)] 42)) w4.heap.size [.string S, .int .i64 (f1 : Int), .int .i64 (f2 : Int)] 42) := Row.new w4 [.string S, .int .i64 (f1 : Int), .int .i64 (f2 : Int)] 42)
    | (go_at_call 53; refine (hd _ _ P7.out.rd).mono ?_; rintro e w9 ⟨rfl, rfl⟩)
    | (go_at_call 67; clear m0 m1 m2 g0 g1 g2 n0 n1 n2 j0 j1 j2 x0 x1 x2 y0 y1 y2; refine (ho _).mono ?_; rintro e w9 ⟨rfl, hb⟩; have P9 : Hid (PI w w9 w1.heap.size [.string K, .string V, .bool false] [.string ⟨#[]⟩, .int .i64 0, .int .i64 0] 34 42 80 r2 s2) := P7.out.later hb; have R9 : Hid (Row w9 w4.heap.size [.string S, .int .i64 (f1 : Int), .int .i64 (f2 : Int)] 42) := R7.out.later hb; obtain ⟨m0, m1, m2, g0, g1, g2⟩ := P9.out.r2.seen3; obtain ⟨n0, n1, n2, _, _, _⟩ := R9.out.seen3; clear hb))
  (try simp only [Exit.inBlock, Exit.then])
  refine bodyPost_ret (v := .tuple #[.int .i64 0, .agg #[.string ⟨#[]⟩, .int .i64 0, .int .i64 0], .bool false]) ?_ rfl ⟨rfl, below_set3 P7.out.bel (by omega) _ _ _⟩
  rw [results_tmp_cell_tmp rfl]
  go_simp

set_option maxRecDepth 10000 in
set_option maxHeartbeats 4000000 in
theorem pen_short (K V S : ByteArray) (r0 r1 r2 : List UInt8) (s0 s1 s2 : Bool) (k dir f1 f2 : Nat) (b : Int) (w : World)
    (hK : ∀ W, Calls Try.prog 9 #[.string K] W fun e w' => e = .returned (.tuple #[.int .i64 (k : Int), .int .i64 (dir : Int), .string S, .int .i64 b]) ∧ Below W.heap.size W w')
    (hV : ∀ W, Calls Try.prog 64 #[.string V] W fun e w' => e = .returned (.pointer (some ⟨W.heap.size, 0, none⟩)) ∧ Rd w' W.heap.size 80 r0 s0 ∧ Below W.heap.size W w')
    (h1 : FieldAt 2 r0 r1 s0 s1 f1) (h2 : FieldAt 1 r1 r2 s1 s2 f2)
    (o : Bool) (hk : k = 2) (hd : VDoneAt r2 s2 false) (_ho : ∀ W, Calls Try.prog 67 #[.agg #[.string S, .int .i64 (f1 : Int), .int .i64 (f2 : Int)]] W fun e w' => e = .returned (.bool o) ∧ Below W.heap.size W w') :
    Calls Try.prog 32 #[.agg #[.string K, .string V, .bool false]] w fun e w' => e = .returned (.tuple #[.int .i64 0, .agg #[.string ⟨#[]⟩, .int .i64 0, .int .i64 0], .bool false]) ∧ Below w.heap.size w w' := by
  obtain ⟨W, hW⟩ : ∃ W, W = (w.alloc (.cells #[.string K, .string V, .bool false] 34)).alloc (.cells #[.string ⟨#[]⟩, .int .i64 0, .int .i64 0] 42) := ⟨_, rfl⟩
  obtain ⟨hR1, hR2, hBW⟩ := two_boxes w [.string K, .string V, .bool false] [.string ⟨#[]⟩, .int .i64 0, .int .i64 0] 34 42 W hW
  obtain ⟨x0, x1, x2, _, _, _⟩ := hR1.seen3
  have HBW : Hid (Below w.heap.size w W) := hBW
  have HR1 : Hid (Row W w.heap.size [.string K, .string V, .bool false] 34) := hR1
  have HR2 : Hid (Row W (w.heap.size + 1) [.string ⟨#[]⟩, .int .i64 0, .int .i64 0] 42) := hR2
  clear hR1 hR2 hBW
  subst hk
  have M1 : Hid True := trivial
  go_enter Try.func32, Try.ntmps32
  go_wp2_with fail
  rw [← hW]
  clear hW
  go_wp2_with (first
    | (go_at_call 9; refine (hK _).mono ?_; rintro e w1 ⟨rfl, hb⟩; have HB1 : Hid (Below W.heap.size W w1) := hb; clear x0 x1 x2; obtain ⟨x0, x1, x2, _, _, _⟩ := (HR1.out.later hb).seen3; clear hb)
    | (go_at_call 64; refine (hV _).mono ?_; rintro e w2 ⟨rfl, hr, hb⟩; have P0 : Hid (PI w w2 w1.heap.size [.string K, .string V, .bool false] [.string ⟨#[]⟩, .int .i64 0, .int .i64 0] 34 42 80 r0 s0) := PI.start HR1.out HR2.out HBW.out HB1.out hr hb; clear hr hb x0 x1 x2)
    | (go_at_call 65; clear M1; refine (h1 _ _ P0.out.rd).mono ?_; rintro e w3 ⟨rfl, p⟩; have P1 : Hid (PI w w3 w1.heap.size [.string K, .string V, .bool false] [.string ⟨#[]⟩, .int .i64 0, .int .i64 0] 34 42 80 r1 s1) := P0.out.step p; clear p)
    | (go_at_call 65; refine (h2 _ _ P1.out.rd).mono ?_; rintro e w4 ⟨rfl, p⟩; have P2 : Hid (PI w w4 w1.heap.size [.string K, .string V, .bool false] [.string ⟨#[]⟩, .int .i64 0, .int .i64 0] 34 42 80 r2 s2) := P1.out.step p; clear p; obtain ⟨x0, x1, x2, _, _, _⟩ := P2.out.r1.seen3; obtain ⟨m0, m1, m2, g0, g1, g2⟩ := P2.out.r2.seen3; have P7 : Hid (PI w (w4.alloc (.cells #[.string S, .int .i64 (f1 : Int), .int .i64 (f2 : Int)] 42)) w1.heap.size [.string K, .string V, .bool false] [.string ⟨#[]⟩, .int .i64 0, .int .i64 0] 34 42 80 r2 s2) := P2.out.later (below_new _ _); obtain ⟨y0, y1, y2, _, _, _⟩ := P7.out.r1.seen3; obtain ⟨n0, n1, n2, j0, j1, j2⟩ := P7.out.r2.seen3; have R7 : Hid (Row (w4.alloc (.cells #[.string S, .int .i64 (f1 : Int), .int .i64 (f2 : Int)] 42)) w4.heap.size [.string S, .int .i64 (f1 : Int), .int .i64 (f2 : Int)] 42) := Row.new w4 [.string S, .int .i64 (f1 : Int), .int .i64 (f2 : Int)] 42)
    | (go_at_call 53; refine (hd _ _ P7.out.rd).mono ?_; rintro e w9 ⟨rfl, rfl⟩)
    | (go_at_call 67; clear m0 m1 m2 g0 g1 g2 n0 n1 n2 j0 j1 j2 x0 x1 x2 y0 y1 y2; refine (ho _).mono ?_; rintro e w9 ⟨rfl, hb⟩; have P9 : Hid (PI w w9 w1.heap.size [.string K, .string V, .bool false] [.string ⟨#[]⟩, .int .i64 0, .int .i64 0] 34 42 80 r2 s2) := P7.out.later hb; have R9 : Hid (Row w9 w4.heap.size [.string S, .int .i64 (f1 : Int), .int .i64 (f2 : Int)] 42) := R7.out.later hb; obtain ⟨m0, m1, m2, g0, g1, g2⟩ := P9.out.r2.seen3; obtain ⟨n0, n1, n2, _, _, _⟩ := R9.out.seen3; clear hb))
  (try simp only [Exit.inBlock, Exit.then])
  refine bodyPost_ret (v := .tuple #[.int .i64 0, .agg #[.string ⟨#[]⟩, .int .i64 0, .int .i64 0], .bool false]) ?_ rfl ⟨rfl, below_set3 P7.out.bel (by omega) _ _ _⟩
  rw [results_tmp_cell_tmp rfl]
  go_simp

set_option maxRecDepth 10000 in
set_option maxHeartbeats 4000000 in
theorem pen_wrong (K V S : ByteArray) (r0 r1 r2 : List UInt8) (s0 s1 s2 : Bool) (k dir f1 f2 : Nat) (b : Int) (w : World)
    (hK : ∀ W, Calls Try.prog 9 #[.string K] W fun e w' => e = .returned (.tuple #[.int .i64 (k : Int), .int .i64 (dir : Int), .string S, .int .i64 b]) ∧ Below W.heap.size W w')
    (hV : ∀ W, Calls Try.prog 64 #[.string V] W fun e w' => e = .returned (.pointer (some ⟨W.heap.size, 0, none⟩)) ∧ Rd w' W.heap.size 80 r0 s0 ∧ Below W.heap.size W w')
    (h1 : FieldAt 2 r0 r1 s0 s1 f1) (h2 : FieldAt 1 r1 r2 s1 s2 f2)
    (hk : k = 2) (hd : VDoneAt r2 s2 true) (ho : ∀ W, Calls Try.prog 67 #[.agg #[.string S, .int .i64 (f1 : Int), .int .i64 (f2 : Int)]] W fun e w' => e = .returned (.bool false) ∧ Below W.heap.size W w') :
    Calls Try.prog 32 #[.agg #[.string K, .string V, .bool false]] w fun e w' => e = .returned (.tuple #[.int .i64 0, .agg #[.string ⟨#[]⟩, .int .i64 0, .int .i64 0], .bool false]) ∧ Below w.heap.size w w' := by
  obtain ⟨W, hW⟩ : ∃ W, W = (w.alloc (.cells #[.string K, .string V, .bool false] 34)).alloc (.cells #[.string ⟨#[]⟩, .int .i64 0, .int .i64 0] 42) := ⟨_, rfl⟩
  obtain ⟨hR1, hR2, hBW⟩ := two_boxes w [.string K, .string V, .bool false] [.string ⟨#[]⟩, .int .i64 0, .int .i64 0] 34 42 W hW
  obtain ⟨x0, x1, x2, _, _, _⟩ := hR1.seen3
  have HBW : Hid (Below w.heap.size w W) := hBW
  have HR1 : Hid (Row W w.heap.size [.string K, .string V, .bool false] 34) := hR1
  have HR2 : Hid (Row W (w.heap.size + 1) [.string ⟨#[]⟩, .int .i64 0, .int .i64 0] 42) := hR2
  clear hR1 hR2 hBW
  subst hk
  have M1 : Hid True := trivial
  go_enter Try.func32, Try.ntmps32
  go_wp2_with fail
  rw [← hW]
  clear hW
  go_wp2_with (first
    | (go_at_call 9; refine (hK _).mono ?_; rintro e w1 ⟨rfl, hb⟩; have HB1 : Hid (Below W.heap.size W w1) := hb; clear x0 x1 x2; obtain ⟨x0, x1, x2, _, _, _⟩ := (HR1.out.later hb).seen3; clear hb)
    | (go_at_call 64; refine (hV _).mono ?_; rintro e w2 ⟨rfl, hr, hb⟩; have P0 : Hid (PI w w2 w1.heap.size [.string K, .string V, .bool false] [.string ⟨#[]⟩, .int .i64 0, .int .i64 0] 34 42 80 r0 s0) := PI.start HR1.out HR2.out HBW.out HB1.out hr hb; clear hr hb x0 x1 x2)
    | (go_at_call 65; clear M1; refine (h1 _ _ P0.out.rd).mono ?_; rintro e w3 ⟨rfl, p⟩; have P1 : Hid (PI w w3 w1.heap.size [.string K, .string V, .bool false] [.string ⟨#[]⟩, .int .i64 0, .int .i64 0] 34 42 80 r1 s1) := P0.out.step p; clear p)
    | (go_at_call 65; refine (h2 _ _ P1.out.rd).mono ?_; rintro e w4 ⟨rfl, p⟩; have P2 : Hid (PI w w4 w1.heap.size [.string K, .string V, .bool false] [.string ⟨#[]⟩, .int .i64 0, .int .i64 0] 34 42 80 r2 s2) := P1.out.step p; clear p; obtain ⟨x0, x1, x2, _, _, _⟩ := P2.out.r1.seen3; obtain ⟨m0, m1, m2, g0, g1, g2⟩ := P2.out.r2.seen3; have P7 : Hid (PI w (w4.alloc (.cells #[.string S, .int .i64 (f1 : Int), .int .i64 (f2 : Int)] 42)) w1.heap.size [.string K, .string V, .bool false] [.string ⟨#[]⟩, .int .i64 0, .int .i64 0] 34 42 80 r2 s2) := P2.out.later (below_new _ _); obtain ⟨y0, y1, y2, _, _, _⟩ := P7.out.r1.seen3; obtain ⟨n0, n1, n2, j0, j1, j2⟩ := P7.out.r2.seen3; have R7 : Hid (Row (w4.alloc (.cells #[.string S, .int .i64 (f1 : Int), .int .i64 (f2 : Int)] 42)) w4.heap.size [.string S, .int .i64 (f1 : Int), .int .i64 (f2 : Int)] 42) := Row.new w4 [.string S, .int .i64 (f1 : Int), .int .i64 (f2 : Int)] 42)
    | (go_at_call 53; refine (hd _ _ P7.out.rd).mono ?_; rintro e w9 ⟨rfl, rfl⟩)
    | (go_at_call 67; clear m0 m1 m2 g0 g1 g2 n0 n1 n2 j0 j1 j2 x0 x1 x2 y0 y1 y2; refine (ho _).mono ?_; rintro e w9 ⟨rfl, hb⟩; have P9 : Hid (PI w w9 w1.heap.size [.string K, .string V, .bool false] [.string ⟨#[]⟩, .int .i64 0, .int .i64 0] 34 42 80 r2 s2) := P7.out.later hb; have R9 : Hid (Row w9 w4.heap.size [.string S, .int .i64 (f1 : Int), .int .i64 (f2 : Int)] 42) := R7.out.later hb; obtain ⟨m0, m1, m2, g0, g1, g2⟩ := P9.out.r2.seen3; obtain ⟨n0, n1, n2, _, _, _⟩ := R9.out.seen3; clear hb))
  (try simp only [Exit.inBlock, Exit.then])
  refine bodyPost_ret (v := .tuple #[.int .i64 0, .agg #[.string ⟨#[]⟩, .int .i64 0, .int .i64 0], .bool false]) ?_ rfl ⟨rfl, below_set3 P9.out.bel (by omega) _ _ _⟩
  rw [results_tmp_cell_tmp rfl]
  go_simp

set_option maxRecDepth 10000 in
set_option maxHeartbeats 4000000 in
theorem pen_yes (K V S : ByteArray) (r0 r1 r2 : List UInt8) (s0 s1 s2 : Bool) (k dir f1 f2 : Nat) (b : Int) (w : World)
    (hK : ∀ W, Calls Try.prog 9 #[.string K] W fun e w' => e = .returned (.tuple #[.int .i64 (k : Int), .int .i64 (dir : Int), .string S, .int .i64 b]) ∧ Below W.heap.size W w')
    (hV : ∀ W, Calls Try.prog 64 #[.string V] W fun e w' => e = .returned (.pointer (some ⟨W.heap.size, 0, none⟩)) ∧ Rd w' W.heap.size 80 r0 s0 ∧ Below W.heap.size W w')
    (h1 : FieldAt 2 r0 r1 s0 s1 f1) (h2 : FieldAt 1 r1 r2 s1 s2 f2)
    (hk : k = 2) (hd : VDoneAt r2 s2 true) (ho : ∀ W, Calls Try.prog 67 #[.agg #[.string S, .int .i64 (f1 : Int), .int .i64 (f2 : Int)]] W fun e w' => e = .returned (.bool true) ∧ Below W.heap.size W w') :
    Calls Try.prog 32 #[.agg #[.string K, .string V, .bool false]] w fun e w' => e = .returned (.tuple #[.int .i64 (dir : Int), .agg #[.string S, .int .i64 (f1 : Int), .int .i64 (f2 : Int)], .bool true]) ∧ Below w.heap.size w w' := by
  obtain ⟨W, hW⟩ : ∃ W, W = (w.alloc (.cells #[.string K, .string V, .bool false] 34)).alloc (.cells #[.string ⟨#[]⟩, .int .i64 0, .int .i64 0] 42) := ⟨_, rfl⟩
  obtain ⟨hR1, hR2, hBW⟩ := two_boxes w [.string K, .string V, .bool false] [.string ⟨#[]⟩, .int .i64 0, .int .i64 0] 34 42 W hW
  obtain ⟨x0, x1, x2, _, _, _⟩ := hR1.seen3
  have HBW : Hid (Below w.heap.size w W) := hBW
  have HR1 : Hid (Row W w.heap.size [.string K, .string V, .bool false] 34) := hR1
  have HR2 : Hid (Row W (w.heap.size + 1) [.string ⟨#[]⟩, .int .i64 0, .int .i64 0] 42) := hR2
  clear hR1 hR2 hBW
  subst hk
  have M1 : Hid True := trivial
  go_enter Try.func32, Try.ntmps32
  go_wp2_with fail
  rw [← hW]
  clear hW
  go_wp2_with (first
    | (go_at_call 9; refine (hK _).mono ?_; rintro e w1 ⟨rfl, hb⟩; have HB1 : Hid (Below W.heap.size W w1) := hb; clear x0 x1 x2; obtain ⟨x0, x1, x2, _, _, _⟩ := (HR1.out.later hb).seen3; clear hb)
    | (go_at_call 64; refine (hV _).mono ?_; rintro e w2 ⟨rfl, hr, hb⟩; have P0 : Hid (PI w w2 w1.heap.size [.string K, .string V, .bool false] [.string ⟨#[]⟩, .int .i64 0, .int .i64 0] 34 42 80 r0 s0) := PI.start HR1.out HR2.out HBW.out HB1.out hr hb; clear hr hb x0 x1 x2)
    | (go_at_call 65; clear M1; refine (h1 _ _ P0.out.rd).mono ?_; rintro e w3 ⟨rfl, p⟩; have P1 : Hid (PI w w3 w1.heap.size [.string K, .string V, .bool false] [.string ⟨#[]⟩, .int .i64 0, .int .i64 0] 34 42 80 r1 s1) := P0.out.step p; clear p)
    | (go_at_call 65; refine (h2 _ _ P1.out.rd).mono ?_; rintro e w4 ⟨rfl, p⟩; have P2 : Hid (PI w w4 w1.heap.size [.string K, .string V, .bool false] [.string ⟨#[]⟩, .int .i64 0, .int .i64 0] 34 42 80 r2 s2) := P1.out.step p; clear p; obtain ⟨x0, x1, x2, _, _, _⟩ := P2.out.r1.seen3; obtain ⟨m0, m1, m2, g0, g1, g2⟩ := P2.out.r2.seen3; have P7 : Hid (PI w (w4.alloc (.cells #[.string S, .int .i64 (f1 : Int), .int .i64 (f2 : Int)] 42)) w1.heap.size [.string K, .string V, .bool false] [.string ⟨#[]⟩, .int .i64 0, .int .i64 0] 34 42 80 r2 s2) := P2.out.later (below_new _ _); obtain ⟨y0, y1, y2, _, _, _⟩ := P7.out.r1.seen3; obtain ⟨n0, n1, n2, j0, j1, j2⟩ := P7.out.r2.seen3; have R7 : Hid (Row (w4.alloc (.cells #[.string S, .int .i64 (f1 : Int), .int .i64 (f2 : Int)] 42)) w4.heap.size [.string S, .int .i64 (f1 : Int), .int .i64 (f2 : Int)] 42) := Row.new w4 [.string S, .int .i64 (f1 : Int), .int .i64 (f2 : Int)] 42)
    | (go_at_call 53; refine (hd _ _ P7.out.rd).mono ?_; rintro e w9 ⟨rfl, rfl⟩)
    | (go_at_call 67; clear m0 m1 m2 g0 g1 g2 n0 n1 n2 j0 j1 j2 x0 x1 x2 y0 y1 y2; refine (ho _).mono ?_; rintro e w9 ⟨rfl, hb⟩; have P9 : Hid (PI w w9 w1.heap.size [.string K, .string V, .bool false] [.string ⟨#[]⟩, .int .i64 0, .int .i64 0] 34 42 80 r2 s2) := P7.out.later hb; have R9 : Hid (Row w9 w4.heap.size [.string S, .int .i64 (f1 : Int), .int .i64 (f2 : Int)] 42) := R7.out.later hb; obtain ⟨m0, m1, m2, g0, g1, g2⟩ := P9.out.r2.seen3; obtain ⟨n0, n1, n2, _, _, _⟩ := R9.out.seen3; clear hb))
  go_region
  all_goals
    go_wp2
    (try simp only [Exit.inBlock, Exit.then])
    refine bodyPost_ret (v := .tuple #[.int .i64 (dir : Int), .agg #[.string S, .int .i64 (f1 : Int), .int .i64 (f2 : Int)], .bool true]) ?_ rfl ⟨rfl, below_set3 (P9.out.bel.drew) (by omega) _ _ _⟩
    rw [results_tmp_cell_tmp rfl]
    go_simp

/-- The entry that a value's bytes tell. -/
def vEn (name v : List UInt8) : En := ⟨name, numV 2 v, numV 1 (txR 2 v)⟩
def eEnd (v : List UInt8) : Bool := dn (txR 1 (txR 2 v)) (txS 1 (txR 2 v) (txS 2 v false))
theorem eEnd_eq (v : List UInt8) : eEnd v = decide (v.length = 3) := by
  unfold eEnd
  rw [dnS]
  by_cases h : v.length < 2
  · rw [txS_gt (n := 2) h, decide_eq_false (p := v.length = 3) (by omega)]; rfl
  · rw [txS_le (n := 2) (by omega), txR_le (n := 2) (by omega), List.length_drop, Bool.not_false, Bool.true_and]
    exact decide_eq_decide.2 (by omega)
/-- Is it the node of an entry? -/
def peOk (n : Nd) : Bool := !n.gone && ((kindOf n.key).1 == 2) && decide (n.val.length = 3) && (vEn (kindOf n.key).2.2.1 n.val).right
theorem kindOf_name (l : List UInt8) : (kindOf l).2.2.1.length ≤ l.length := by
  unfold kindOf
  split
  · split
    · simp
    · split
      · simp
        omega
      · split
        · simp
        · split <;> simp
  · simp
theorem parseEntry_any (n : Nd) (hk : n.key.length ≤ maxLen) (hv : n.val.length ≤ maxLen) (w : World) :
    Calls Try.prog 32 #[n.v] w fun e w' => e = .returned (.tuple #[.int .i64 ((bif peOk n then (kindOf n.key).2.1 else 0 : Nat) : Int), (bif peOk n then vEn (kindOf n.key).2.2.1 n.val else En.zero).v, .bool (peOk n)]) ∧ Below w.heap.size w w' := by
  have hK := fun W => kind_any n.key hk W
  have hV := fun W => readValue_any n.val W
  have l1 : (txR 2 n.val).length ≤ maxLen := Nat.le_trans (txR_len _ _) hv
  have f1 : FieldAt 2 n.val _ false _ _ := fun W B h => field_any B _ 2 (by decide) n.val false W hv h
  have f2 : FieldAt 1 _ _ _ _ _ := fun W B h => field_any B _ 1 (by decide) (txR 2 n.val) (txS 2 n.val false) W l1 h
  have hd : VDoneAt _ _ (eEnd n.val) := fun W B h => done_any B _ _ _ W h
  rw [eEnd_eq] at hd
  have ho := fun W => rightEntry_any (vEn (kindOf n.key).2.2.1 n.val) (Nat.le_trans (kindOf_name _) hk) W
  obtain ⟨key, val, gone⟩ := n
  show Calls Try.prog 32 #[.agg #[.string (bs key), .string (bs val), .bool gone]] w _
  dsimp only at *
  unfold kvOf kv at hK
  unfold peOk
  dsimp only
  cases gone
  · by_cases h1 : (kindOf key).1 = 2
    · by_cases h2 : val.length = 3
      · rw [decide_eq_true h2] at hd
        cases h3 : (vEn (kindOf key).2.2.1 val).right
        · rw [h3] at ho
          rw [h1, decide_eq_true h2]
          exact pen_wrong _ _ _ _ _ _ _ _ _ _ _ _ _ _ w hK hV f1 f2 h1 hd ho
        · rw [h3] at ho
          rw [h1, decide_eq_true h2]
          exact pen_yes _ _ _ _ _ _ _ _ _ _ _ _ _ _ w hK hV f1 f2 h1 hd ho
      · rw [decide_eq_false h2] at hd
        rw [decide_eq_false h2, Bool.and_false, Bool.false_and]
        exact pen_short _ _ _ _ _ _ _ _ _ _ _ _ _ _ w hK hV f1 f2 _ h1 hd ho
    · have e : ((kindOf key).1 == 2) = false := by simpa using h1
      rw [e, Bool.and_false, Bool.false_and, Bool.false_and]
      exact pen_kind _ _ _ _ _ _ _ _ _ _ _ _ _ _ w hK hV f1 f2 _ _ (by simp; omega) hd ho
  · exact pen_gone _ _ _ _ _ _ _ _ _ _ _ _ _ _ w hK hV f1 f2 _ _ hd ho
end Go.Proofs.Ytefpcdpclpignaa
