/-
  What Inode of package node answers.
-/
import Derived.Test.YtplhlbajgijohabKMake
namespace Go.Proofs.Ytplhlbajgijohab
open Go.RowKit M

/-- A node. -/
structure Nd where
  key : List UInt8
  val : List UInt8
  gone : Bool
def Nd.cells (n : Nd) : List Value := [.string (bs n.key), .string (bs n.val), .bool n.gone]
def Nd.v (n : Nd) : Value := .agg n.cells.toArray
def Nd.zero : Nd := ⟨[], [], false⟩

/-- Three cells of a block, and that they may be written. -/
theorem Row.seen3 {W : World} {B : Nat} {x y z : Value} {t : TypeId} (h : Row W B [x, y, z] t) :
    W.cell? ⟨B, 0, none⟩ = some x ∧ W.cell? ⟨B, 1, none⟩ = some y ∧ W.cell? ⟨B, 2, none⟩ = some z ∧ W.frozen? ⟨B, 0, none⟩ = false ∧ W.frozen? ⟨B, 1, none⟩ = false ∧ W.frozen? ⟨B, 2, none⟩ = false :=
  ⟨h.cell (i := 0) rfl, h.cell (i := 1) rfl, h.cell (i := 2) rfl, h.frozen 0, h.frozen 1, h.frozen 2⟩
theorem below_set3 {w W : World} {B : Nat} (h : Below w.heap.size w W) (hB : w.heap.size ≤ B) (x y z : Value) :
    Below w.heap.size w (((W.setCell ⟨B, 0, none⟩ x).setCell ⟨B, 1, none⟩ y).setCell ⟨B, 2, none⟩ z) :=
  ((h.setCell hB _).setCell hB _).setCell hB _

/-- The value of an inode's node. -/
def inVal (k m u g l s : Nat) : List UInt8 := u8s (putL 1 k) ++ u8s (putL 2 m) ++ u8s (putL 2 u) ++ u8s (putL 2 g) ++ u8s (putL 2 l) ++ u8s (putL 4 s)
/-- The node of an inode. -/
def In.nd (i : In) : Nd := ⟨pre3 i.ino 1, inVal i.kind.toNat i.mode.toNat i.uid.toNat i.gid.toNat i.links.toNat i.size.toNat, false⟩

theorem two_boxes (w : World) (c1 c2 : List Value) (t1 t2 : TypeId) (W : World) (hW : W = (w.alloc (.cells c1.toArray t1)).alloc (.cells c2.toArray t2)) :
    Row W w.heap.size c1 t1 ∧ Row W (w.heap.size + 1) c2 t2 ∧ Below w.heap.size w W := by
  subst hW
  have h := Row.new (w.alloc (.cells c1.toArray t1)) c2 t2
  refine ⟨(Row.new w c1 t1).alloc _, ?_, Below.after (below_new _ _) (below_new _ _)⟩
  simpa using h
theorem str_add (a b : ByteArray) (n m : Nat) (ha : a.size = n) (hb : b.size = m) (h : n + m < 1000) (w : World) : (Op.stringOp .add a b).run Try.prog w = .ok (.string (a ++ b)) w :=
  run_string_add_sum w a b (by omega)
theorem size_add (a b : ByteArray) (n m : Nat) (ha : a.size = n) (hb : b.size = m) : (a ++ b).size = n + m := by rw [ByteArray.size_append, ha, hb]

set_option maxRecDepth 10000 in
set_option maxHeartbeats 1000000 in
theorem inode_no (i : In) (hi : i.right = false) (w : World) :
    Calls Try.prog 38 #[i.v] w fun e w' => e = .returned (.tuple #[Nd.zero.v, .int .i64 22]) ∧ Below w.heap.size w w' := by
  have hr := fun W => rightInode_any i W
  rw [hi] at hr
  obtain ⟨a0, a1, a2, a3, a4, a5, a6⟩ := i
  unfold In.v In.cells at hr ⊢
  dsimp only at hr ⊢
  clear hi
  obtain ⟨W, hW⟩ : ∃ W, W = (w.alloc (.cells #[.int .i64 a0, .int .i64 a1, .int .i64 a2, .int .i64 a3, .int .i64 a4, .int .i64 a5, .int .i64 a6] 67)).alloc (.cells #[.string ⟨#[]⟩, .string ⟨#[]⟩, .bool false] 24) := ⟨_, rfl⟩
  obtain ⟨hR1, hR2, hBW⟩ := two_boxes w [.int .i64 a0, .int .i64 a1, .int .i64 a2, .int .i64 a3, .int .i64 a4, .int .i64 a5, .int .i64 a6] [.string ⟨#[]⟩, .string ⟨#[]⟩, .bool false] 67 24 W hW
  have HBW : Hid (Below w.heap.size w W) := hBW
  have HR2 : Hid (Row W (w.heap.size + 1) [.string ⟨#[]⟩, .string ⟨#[]⟩, .bool false] 24) := hR2
  have c0 : W.cell? ⟨w.heap.size, 0, none⟩ = some (.int .i64 a0) := hR1.cell (i := 0) rfl
  have c1 : W.cell? ⟨w.heap.size, 1, none⟩ = some (.int .i64 a1) := hR1.cell (i := 1) rfl
  have c2 : W.cell? ⟨w.heap.size, 2, none⟩ = some (.int .i64 a2) := hR1.cell (i := 2) rfl
  have c3 : W.cell? ⟨w.heap.size, 3, none⟩ = some (.int .i64 a3) := hR1.cell (i := 3) rfl
  have c4 : W.cell? ⟨w.heap.size, 4, none⟩ = some (.int .i64 a4) := hR1.cell (i := 4) rfl
  have c5 : W.cell? ⟨w.heap.size, 5, none⟩ = some (.int .i64 a5) := hR1.cell (i := 5) rfl
  have c6 : W.cell? ⟨w.heap.size, 6, none⟩ = some (.int .i64 a6) := hR1.cell (i := 6) rfl
  clear hR1 hR2 hBW
  go_enter Try.func38, Try.ntmps38
  go_wp2_with fail
  rw [← hW]
  clear hW
  go_wp2_with (go_at_call 41; refine (hr _).mono ?_; rintro e w1 ⟨rfl, hb⟩; obtain ⟨m0, m1, m2, f0, f1, f2⟩ := (HR2.out.later hb).seen3; have HB1 : Hid (Below w.heap.size w w1) := Below.after HBW.out hb; clear hb)
  (try simp only [Exit.inBlock, Exit.then])
  refine bodyPost_ret (v := .tuple #[Nd.zero.v, .int .i64 22]) ?_ rfl ⟨rfl, below_set3 HB1.out (by omega) _ _ _⟩
  rw [results_cell_tmp rfl]
  go_simp
  rfl

theorem In.right_nat {i : In} (h : i.right = true) : ∃ a0 a1 a2 a3 a4 a5 a6 : Nat, i = ⟨a0, a1, a2, a3, a4, a5, a6⟩ ∧ 1 ≤ a0 ∧ a0 ≤ 4096 ∧ 1 ≤ a1 ∧ a1 ≤ 3 ∧ a2 ≤ 511 ∧ a3 ≤ 65535 ∧ a4 ≤ 65535 ∧ a5 ≤ 100 ∧ a6 ≤ 16384 := by
  obtain ⟨b0, b1, b2, b3, b4, b5, b6⟩ := i
  simp only [In.right, inoB, tyB, inB, Bool.and_eq_true, decide_eq_true_eq] at h
  obtain ⟨⟨⟨⟨⟨⟨h0, h1⟩, h2⟩, h3⟩, h4⟩, h5⟩, h6⟩ := h
  refine ⟨b0.toNat, b1.toNat, b2.toNat, b3.toNat, b4.toNat, b5.toNat, b6.toNat, ?_, by omega, by omega, by omega, by omega, by omega, by omega, by omega, by omega, by omega⟩
  congr <;> omega

set_option maxRecDepth 10000 in
set_option maxHeartbeats 4000000 in
theorem inode_yes (i : In) (hi : i.right = true) (w : World) :
    Calls Try.prog 38 #[i.v] w fun e w' => e = .returned (.tuple #[i.nd.v, .int .i64 0]) ∧ Below w.heap.size w w' := by
  have hr := fun W => rightInode_any i W
  rw [hi] at hr
  obtain ⟨a0, a1, a2, a3, a4, a5, a6, rfl, q1, q2, q3, q4, q5, q6, q7, q8, q9⟩ := In.right_nat hi
  unfold In.v In.cells at hr
  show Calls Try.prog 38 #[.agg #[.int .i64 a0, .int .i64 a1, .int .i64 a2, .int .i64 a3, .int .i64 a4, .int .i64 a5, .int .i64 a6]] w fun e w' => e = .returned (.tuple #[.agg #[.string (bs (pre3 a0 1)), .string (bs (inVal a1 a2 a3 a4 a5 a6)), .bool false], .int .i64 0]) ∧ Below w.heap.size w w'
  dsimp only at hr
  clear hi
  have h1 : ∀ W, Calls Try.prog 11 #[.int .i64 (a1 : Int), .int .i64 1] W fun e w' => e = .returned (.string (bs (u8s (putL 1 a1)))) ∧ Below W.heap.size W w' := fun W => low_any a1 1 (by omega) (by omega) W
  have h2 : ∀ W, Calls Try.prog 11 #[.int .i64 (a2 : Int), .int .i64 2] W fun e w' => e = .returned (.string (bs (u8s (putL 2 a2)))) ∧ Below W.heap.size W w' := fun W => low_any a2 2 (by omega) (by omega) W
  have h3 : ∀ W, Calls Try.prog 11 #[.int .i64 (a3 : Int), .int .i64 2] W fun e w' => e = .returned (.string (bs (u8s (putL 2 a3)))) ∧ Below W.heap.size W w' := fun W => low_any a3 2 (by omega) (by omega) W
  have h4 : ∀ W, Calls Try.prog 11 #[.int .i64 (a4 : Int), .int .i64 2] W fun e w' => e = .returned (.string (bs (u8s (putL 2 a4)))) ∧ Below W.heap.size W w' := fun W => low_any a4 2 (by omega) (by omega) W
  have h5 : ∀ W, Calls Try.prog 11 #[.int .i64 (a5 : Int), .int .i64 2] W fun e w' => e = .returned (.string (bs (u8s (putL 2 a5)))) ∧ Below W.heap.size W w' := fun W => low_any a5 2 (by omega) (by omega) W
  have h6 : ∀ W, Calls Try.prog 11 #[.int .i64 (a6 : Int), .int .i64 4] W fun e w' => e = .returned (.string (bs (u8s (putL 4 a6)))) ∧ Below W.heap.size W w' := fun W => low_any a6 4 (by omega) (by omega) W
  have hk := fun W => inodeKey_any a0 W
  have HV : Hid (bs (u8s (putL 1 a1)) ++ bs (u8s (putL 2 a2)) ++ bs (u8s (putL 2 a3)) ++ bs (u8s (putL 2 a4)) ++ bs (u8s (putL 2 a5)) ++ bs (u8s (putL 4 a6)) = bs (inVal a1 a2 a3 a4 a5 a6)) := by show _ = _; rw [bs_app, bs_app, bs_app, bs_app, bs_app]; rfl
  have z1 : (bs (u8s (putL 1 a1))).size = 1 := rfl
  have z2 : (bs (u8s (putL 2 a2))).size = 2 := rfl
  have z3 : (bs (u8s (putL 2 a3))).size = 2 := rfl
  have z4 : (bs (u8s (putL 2 a4))).size = 2 := rfl
  have z5 : (bs (u8s (putL 2 a5))).size = 2 := rfl
  have z6 : (bs (u8s (putL 4 a6))).size = 4 := rfl
  obtain ⟨L1, e1⟩ : ∃ L, L = bs (u8s (putL 1 a1)) := ⟨_, rfl⟩
  rw [← e1] at h1 HV z1
  obtain ⟨L2, e2⟩ : ∃ L, L = bs (u8s (putL 2 a2)) := ⟨_, rfl⟩
  rw [← e2] at h2 HV z2
  obtain ⟨L3, e3⟩ : ∃ L, L = bs (u8s (putL 2 a3)) := ⟨_, rfl⟩
  rw [← e3] at h3 HV z3
  obtain ⟨L4, e4⟩ : ∃ L, L = bs (u8s (putL 2 a4)) := ⟨_, rfl⟩
  rw [← e4] at h4 HV z4
  obtain ⟨L5, e5⟩ : ∃ L, L = bs (u8s (putL 2 a5)) := ⟨_, rfl⟩
  rw [← e5] at h5 HV z5
  obtain ⟨L6, e6⟩ : ∃ L, L = bs (u8s (putL 4 a6)) := ⟨_, rfl⟩
  rw [← e6] at h6 HV z6
  obtain ⟨K, eK⟩ : ∃ K, K = bs (pre3 a0 1) := ⟨_, rfl⟩
  rw [← eK] at hk ⊢
  obtain ⟨V, eV⟩ : ∃ V, V = bs (inVal a1 a2 a3 a4 a5 a6) := ⟨_, rfl⟩
  rw [← eV] at HV ⊢
  clear e1 e2 e3 e4 e5 e6 eK eV q1 q2 q3 q4 q5 q6 q7 q8 q9
  have s2 := fun W => str_add (L1) L2 1 2 z1 z2 (by omega) W
  have y2 : (L1 ++ L2).size = 3 := size_add _ _ _ _ z1 z2
  have s3 := fun W => str_add (L1 ++ L2) L3 3 2 y2 z3 (by omega) W
  have y3 : (L1 ++ L2 ++ L3).size = 5 := size_add _ _ _ _ y2 z3
  have s4 := fun W => str_add (L1 ++ L2 ++ L3) L4 5 2 y3 z4 (by omega) W
  have y4 : (L1 ++ L2 ++ L3 ++ L4).size = 7 := size_add _ _ _ _ y3 z4
  have s5 := fun W => str_add (L1 ++ L2 ++ L3 ++ L4) L5 7 2 y4 z5 (by omega) W
  have y5 : (L1 ++ L2 ++ L3 ++ L4 ++ L5).size = 9 := size_add _ _ _ _ y4 z5
  have s6 := fun W => str_add (L1 ++ L2 ++ L3 ++ L4 ++ L5) L6 9 4 y5 z6 (by omega) W
  have y6 : (L1 ++ L2 ++ L3 ++ L4 ++ L5 ++ L6).size = 13 := size_add _ _ _ _ y5 z6
  obtain ⟨W, hW⟩ : ∃ W, W = (w.alloc (.cells #[.int .i64 a0, .int .i64 a1, .int .i64 a2, .int .i64 a3, .int .i64 a4, .int .i64 a5, .int .i64 a6] 67)).alloc (.cells #[.string ⟨#[]⟩, .string ⟨#[]⟩, .bool false] 24) := ⟨_, rfl⟩
  obtain ⟨hR1, hR2, hBW⟩ := two_boxes w [.int .i64 a0, .int .i64 a1, .int .i64 a2, .int .i64 a3, .int .i64 a4, .int .i64 a5, .int .i64 a6] [.string ⟨#[]⟩, .string ⟨#[]⟩, .bool false] 67 24 W hW
  have HBW : Hid (Below w.heap.size w W) := hBW
  have HR2 : Hid (Row W (w.heap.size + 1) [.string ⟨#[]⟩, .string ⟨#[]⟩, .bool false] 24) := hR2
  have c0 : W.cell? ⟨w.heap.size, 0, none⟩ = some (.int .i64 a0) := hR1.cell (i := 0) rfl
  have c1 : W.cell? ⟨w.heap.size, 1, none⟩ = some (.int .i64 a1) := hR1.cell (i := 1) rfl
  have c2 : W.cell? ⟨w.heap.size, 2, none⟩ = some (.int .i64 a2) := hR1.cell (i := 2) rfl
  have c3 : W.cell? ⟨w.heap.size, 3, none⟩ = some (.int .i64 a3) := hR1.cell (i := 3) rfl
  have c4 : W.cell? ⟨w.heap.size, 4, none⟩ = some (.int .i64 a4) := hR1.cell (i := 4) rfl
  have c5 : W.cell? ⟨w.heap.size, 5, none⟩ = some (.int .i64 a5) := hR1.cell (i := 5) rfl
  have c6 : W.cell? ⟨w.heap.size, 6, none⟩ = some (.int .i64 a6) := hR1.cell (i := 6) rfl
  have HC : Hid (∀ w1, Below W.heap.size W w1 → (w1.cell? ⟨w.heap.size, 0, none⟩ = some (.int .i64 (a0 : Int)) ∧ w1.cell? ⟨w.heap.size, 1, none⟩ = some (.int .i64 (a1 : Int)) ∧ w1.cell? ⟨w.heap.size, 2, none⟩ = some (.int .i64 (a2 : Int)) ∧ w1.cell? ⟨w.heap.size, 3, none⟩ = some (.int .i64 (a3 : Int)) ∧ w1.cell? ⟨w.heap.size, 4, none⟩ = some (.int .i64 (a4 : Int)) ∧ w1.cell? ⟨w.heap.size, 5, none⟩ = some (.int .i64 (a5 : Int)) ∧ w1.cell? ⟨w.heap.size, 6, none⟩ = some (.int .i64 (a6 : Int)))) := fun w1 hb => by
    have h := hR1.later hb
    exact ⟨h.cell (i := 0) rfl, h.cell (i := 1) rfl, h.cell (i := 2) rfl, h.cell (i := 3) rfl, h.cell (i := 4) rfl, h.cell (i := 5) rfl, h.cell (i := 6) rfl⟩
  clear hR1 hR2 hBW
  have M1 : Hid True := trivial
  have M2 : Hid True := trivial
  have M3 : Hid True := trivial
  have M4 : Hid True := trivial
  have M5 : Hid True := trivial
  go_enter Try.func38, Try.ntmps38
  go_wp2_with fail
  rw [← hW]
  clear hW
  go_wp2_with (go_at_call 41; refine (hr _).mono ?_; rintro e w0 ⟨rfl, hb⟩; obtain ⟨d0, d1, d2, d3, d4, d5, d6⟩ := HC.out w0 hb; have HB0 : Hid (Below W.heap.size W w0) := hb; clear hb c0 c1 c2 c3 c4 c5 c6 hr)
  go_region_held3 (fun w' => w'.cell? ⟨w.heap.size, 1, none⟩ = some (.int .i64 (a1 : Int)) ∧ w'.cell? ⟨w.heap.size, 2, none⟩ = some (.int .i64 (a2 : Int)) ∧ w'.cell? ⟨w.heap.size, 3, none⟩ = some (.int .i64 (a3 : Int)) ∧ w'.cell? ⟨w.heap.size, 4, none⟩ = some (.int .i64 (a4 : Int)) ∧ w'.cell? ⟨w.heap.size, 5, none⟩ = some (.int .i64 (a5 : Int)) ∧ w'.cell? ⟨w.heap.size, 6, none⟩ = some (.int .i64 (a6 : Int))) (first | assumption | go_keep)
    (first
    | (go_at_call 11; clear M1; refine (h1 _).mono ?_; rintro e w1 ⟨rfl, hb⟩; have HB1 : Hid (Below W.heap.size W w1) := Below.after HB0.out (undrew hb); have hc1 := (HC.out w1 HB1.out).2; clear hb)
    | (go_at_call 11; clear M2; refine (h2 _).mono ?_; rintro e w2 ⟨rfl, hb⟩; have HB2 : Hid (Below W.heap.size W w2) := Below.after HB1.out hb; have hc2 := (HC.out w2 HB2.out).2; clear hb)
    | (go_at_call 11; clear M3; refine (h3 _).mono ?_; rintro e w3 ⟨rfl, hb⟩; have HB3 : Hid (Below W.heap.size W w3) := Below.after HB2.out hb; have hc3 := (HC.out w3 HB3.out).2; clear hb)
    | (go_at_call 11; clear M4; refine (h4 _).mono ?_; rintro e w4 ⟨rfl, hb⟩; have HB4 : Hid (Below W.heap.size W w4) := Below.after HB3.out hb; have hc4 := (HC.out w4 HB4.out).2; clear hb)
    | (go_at_call 11; clear M5; refine (h5 _).mono ?_; rintro e w5 ⟨rfl, hb⟩; have HB5 : Hid (Below W.heap.size W w5) := Below.after HB4.out hb; have hc5 := (HC.out w5 HB5.out).2; clear hb)
    | (go_at_call 11; refine (h6 _).mono ?_; rintro e w6 ⟨rfl, hb⟩; have HB6 : Hid (Below W.heap.size W w6) := Below.after HB5.out hb; have hc6 := (HC.out w6 HB6.out).2; clear hb))
  obtain ⟨d0, d1, d2, d3, d4, d5, d6⟩ := HC.out w6 HB6.out
  go_wp2_with (go_at_call 42; refine (hk _).mono ?_; rintro e w7 ⟨rfl, hb⟩; obtain ⟨m0, m1, m2, f0, f1, f2⟩ := (HR2.out.later (Below.after HB6.out hb)).seen3; have HB7 : Hid (Below w.heap.size w w7) := Below.after (Below.after HBW.out HB6.out) hb; clear hb)
  (try simp only [Exit.inBlock, Exit.then])
  refine bodyPost_ret (v := .tuple #[.agg #[.string K, .string V, .bool false], .int .i64 0]) ?_ rfl ⟨rfl, below_set3 HB7.out (by omega) _ _ _⟩
  rw [results_cell_tmp rfl]
  go_simp
  exact HV.out

theorem inode_any (i : In) (w : World) :
    Calls Try.prog 38 #[i.v] w fun e w' => e = .returned (.tuple #[(bif i.right then i.nd else Nd.zero).v, .int .i64 (bif i.right then 0 else 22)]) ∧ Below w.heap.size w w' := by
  cases h : i.right
  · exact inode_no i h w
  · exact inode_yes i h w
end Go.Proofs.Ytplhlbajgijohab
