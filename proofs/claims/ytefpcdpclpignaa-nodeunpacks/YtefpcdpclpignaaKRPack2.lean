/-
  The document's answers: Pack, Size and Mark of layer 6.
-/
import Derived.Test.YtefpcdpclpignaaKRPack
namespace Go.Proofs.Ytefpcdpclpignaa
open Go.RowKit M

set_option maxRecDepth 10000 in
set_option maxHeartbeats 1000000 in
theorem rpack_no (n : Nd) (hk : n.key.length ≤ maxLen) (hv : n.val.length ≤ maxLen) (hi : n.ok = false) (w : World) :
    Calls Try.prog 35 #[n.v] w fun e w' => e = .returned (.tuple #[.slice none 0 0, .int .i64 22]) ∧ Below w.heap.size w w' := by
  have hr := fun W => rright6_any n hk hv W
  rw [hi] at hr
  obtain ⟨key, val, gone⟩ := n
  clear hi hk hv
  unfold Nd.v Nd.cells at hr ⊢
  dsimp only at hr ⊢
  go_enter Try.func35, Try.ntmps35
  go_wp2_with (go_at_call 39; refine (hr _).mono ?_; rintro e w1 ⟨rfl, hb⟩; have HB1 : Hid (Below w.heap.size w w1) := Below.after (below_new _ _) hb; clear hb)
  go_ret2
  exact ⟨rfl, HB1.out⟩

theorem cells_bytes {w : World} {p : Addr} {v : Value} {e : TypeId} {s : ByteArray} (h : w.cell? p = some v) : (Lib.bytesWorld w e s).cell? p = some v :=
  (Lib.bytesWorld_old w e s p (World.block_lt_of_cell? w _ h)).trans h
/-- A node's bytes as a text. -/
theorem bytes_txt (n : Nd) : bs (u8s (putL 1 n.tag)) ++ bs (u8s (putL 1 n.key.length)) ++ bs n.key ++ bs (u8s (putL 2 n.val.length)) ++ bs n.val = bs (u8s n.bytes) := by
  have ht : n.tag < 256 := by unfold Nd.tag; cases n.gone <;> decide
  rw [bs_app, bs_app, bs_app, bs_app, bytes_u8s, u8s_byte _ ht]
theorem bytes_lt (n : Nd) : ∀ x ∈ n.bytes, x < 256 := by
  intro x hx
  unfold Nd.bytes at hx
  simp only [List.mem_append, List.mem_singleton] at hx
  have ht : n.tag < 256 := by unfold Nd.tag; cases n.gone <;> decide
  rcases hx with (((h | h) | h) | h) | h
  · omega
  · exact putL_lt _ _ x h
  · exact nats_lt _ x h
  · exact putL_lt _ _ x h
  · exact nats_lt _ x h

set_option maxRecDepth 100000 in
set_option maxHeartbeats 4000000 in
theorem rpack_yes (n : Nd) (hi : n.ok = true) (w : World) :
    Calls Try.prog 35 #[n.v] w fun e w' => ∃ a cap, e = .returned (.tuple #[.slice a n.bytes.length cap, .int .i64 0]) ∧ BRow w' a n.bytes ∧ Below w.heap.size w w' := by
  obtain ⟨q1, q2, q3, _⟩ := Nd.ok_le hi
  have hr := fun W => rright6_any n (by unfold maxLen; omega) (by unfold maxLen; omega) W
  rw [hi] at hr
  have hT : n.tag ≤ 2 := by unfold Nd.tag; cases n.gone <;> decide
  have HX : Hid (bs (u8s (putL 1 n.tag)) ++ bs (u8s (putL 1 n.key.length)) ++ bs n.key ++ bs (u8s (putL 2 n.val.length)) ++ bs n.val = bs (u8s n.bytes)) := bytes_txt n
  have hcv := fun W => to_bytes (u8s n.bytes) W
  have HR : Hid (∀ W, BRow (Lib.bytesWorld W 5 (bs (u8s n.bytes))) (some ⟨W.heap.size, 0, none⟩) n.bytes) := fun W => by
    have := bytes_row (u8s n.bytes) W
    rw [nats_u8s (bytes_lt n)] at this
    exact this
  have HBB : Hid (∀ W, Below W.heap.size W (Lib.bytesWorld W 5 (bs (u8s n.bytes)))) := fun W => bytes_below _ W
  have hpt : ∀ W, Calls Try.prog 63 #[.int .i64 (n.tag : Int), .int .i64 1] W fun e w' => e = .returned (.string (bs (u8s (putL 1 n.tag)))) ∧ Below W.heap.size W w' := fun W => rput_any n.tag 1 (by omega) (by omega) W
  have hpk : ∀ W, Calls Try.prog 63 #[.int .i64 (n.key.length : Int), .int .i64 1] W fun e w' => e = .returned (.string (bs (u8s (putL 1 n.key.length)))) ∧ Below W.heap.size W w' := fun W => rput_any n.key.length 1 (by omega) (by omega) W
  have hpv : ∀ W, Calls Try.prog 63 #[.int .i64 (n.val.length : Int), .int .i64 2] W fun e w' => e = .returned (.string (bs (u8s (putL 2 n.val.length)))) ∧ Below W.heap.size W w' := fun W => rput_any n.val.length 2 (by omega) (by omega) W
  have z1 : (bs (u8s (putL 1 n.tag))).size = 1 := rfl
  have z2 : (bs (u8s (putL 1 n.key.length))).size = 1 := rfl
  have z4 : (bs (u8s (putL 2 n.val.length))).size = 2 := rfl
  have z3 := bs_size n.key
  have z5 := bs_size n.val
  rw [u8s_length] at hcv
  obtain ⟨m, em⟩ : ∃ m, m = n.bytes.length := ⟨_, rfl⟩
  rw [← em] at hcv ⊢
  obtain ⟨X, eX⟩ : ∃ X, X = bs (u8s n.bytes) := ⟨_, rfl⟩
  rw [← eX] at HX hcv HR HBB
  obtain ⟨R, eR⟩ : ∃ R, R = n.bytes := ⟨_, rfl⟩
  rw [← eR] at HR ⊢
  clear eX eR em hi
  obtain ⟨tg, etg⟩ : ∃ t, t = n.tag := ⟨_, rfl⟩
  have hgone : tg = bif n.gone then 2 else 1 := etg
  rw [← etg] at hpt HX z1
  clear etg hT
  obtain ⟨key, val, gone⟩ := n
  unfold Nd.v Nd.cells at hr ⊢
  dsimp only at hr hpk hpv z2 z3 z4 z5 q1 q2 q3 HX hgone ⊢
  obtain ⟨kn, ekn⟩ : ∃ k, k = key.length := ⟨_, rfl⟩
  obtain ⟨vn, evn⟩ : ∃ k, k = val.length := ⟨_, rfl⟩
  rw [← ekn] at hpk z2 z3 q1 q2 HX
  rw [← evn] at hpv z4 z5 q3 HX
  obtain ⟨L1, u1⟩ : ∃ L, L = bs (u8s (putL 1 tg)) := ⟨_, rfl⟩
  obtain ⟨L2, u2⟩ : ∃ L, L = bs (u8s (putL 1 kn)) := ⟨_, rfl⟩
  obtain ⟨L4, u4⟩ : ∃ L, L = bs (u8s (putL 2 vn)) := ⟨_, rfl⟩
  obtain ⟨K, eK⟩ : ∃ K, K = bs key := ⟨_, rfl⟩
  obtain ⟨V, eV⟩ : ∃ V, V = bs val := ⟨_, rfl⟩
  rw [← u1] at hpt HX z1
  rw [← u2] at hpk HX z2
  rw [← u4] at hpv HX z4
  rw [← eK] at hr HX z3 ⊢
  rw [← eV] at hr HX z5 ⊢
  have s1 := fun W => str_add L1 L2 1 1 z1 z2 (by omega) W
  have y1 := size_add L1 L2 1 1 z1 z2
  have s2 := fun W => str_add (L1 ++ L2) K (1 + 1) kn y1 z3 (by omega) W
  have y2 := size_add (L1 ++ L2) K (1 + 1) kn y1 z3
  have s3 := fun W => str_add (L1 ++ L2 ++ K) L4 (1 + 1 + kn) 2 y2 z4 (by omega) W
  have y3 := size_add (L1 ++ L2 ++ K) L4 (1 + 1 + kn) 2 y2 z4
  have s4 := fun W => str_add (L1 ++ L2 ++ K ++ L4) V (1 + 1 + kn + 2) vn y3 z5 (by omega) W
  have hX := HX.out
  clear ekn evn u1 u2 u4 eK eV HX
  have M1 : Hid True := trivial
  have M2 : Hid True := trivial
  cases gone
  all_goals
    subst hgone
    go_enter Try.func35, Try.ntmps35
    go_wp2_with (go_at_call 39; refine (hr _).mono ?_; rintro e w0 ⟨rfl, hb⟩; have HX0 : Hid (Row w0 w.heap.size [.string K, .string V, .bool _] 34) := (Row.new w [.string K, .string V, .bool _] 34).later hb; obtain ⟨x0, x1, x2, _, _, _⟩ := HX0.out.seen3; have HB0 : Hid (Below w.heap.size w w0) := Below.after (below_new _ _) hb; clear hb)
    go_region_held (fun w' => w'.cell? ⟨w.heap.size, 0, none⟩ = some (.string K) ∧ w'.cell? ⟨w.heap.size, 1, none⟩ = some (.string V)) (first | assumption | go_keep | exact ⟨cells_bytes hc3.1, cells_bytes hc3.2⟩)
      (first
      | (go_at_call 63; clear M1; refine (hpt _).mono ?_; rintro e w1 ⟨rfl, hb⟩; have HB1 : Hid (Below w.heap.size w w1) := Below.after HB0.out (undrew hb); have HX1 : Hid (Row w1 w.heap.size [.string K, .string V, .bool _] 34) := HX0.out.later (undrew hb); have hc1 : w1.cell? ⟨w.heap.size, 0, none⟩ = some (.string K) ∧ w1.cell? ⟨w.heap.size, 1, none⟩ = some (.string V) := ⟨HX1.out.cell (i := 0) rfl, HX1.out.cell (i := 1) rfl⟩; clear hb)
      | (go_at_call 63; clear M2; refine (hpk _).mono ?_; rintro e w2 ⟨rfl, hb⟩; have HB2 : Hid (Below w.heap.size w w2) := Below.after HB1.out hb; have HX2 : Hid (Row w2 w.heap.size [.string K, .string V, .bool _] 34) := HX1.out.later hb; have hc2 : w2.cell? ⟨w.heap.size, 0, none⟩ = some (.string K) ∧ w2.cell? ⟨w.heap.size, 1, none⟩ = some (.string V) := ⟨HX2.out.cell (i := 0) rfl, HX2.out.cell (i := 1) rfl⟩; clear hb)
      | (go_at_call 63; refine (hpv _).mono ?_; rintro e w3 ⟨rfl, hb⟩; have HB3 : Hid (Below w.heap.size w w3) := Below.after HB2.out hb; have HX3 : Hid (Row w3 w.heap.size [.string K, .string V, .bool _] 34) := HX2.out.later hb; have hc3 : w3.cell? ⟨w.heap.size, 0, none⟩ = some (.string K) ∧ w3.cell? ⟨w.heap.size, 1, none⟩ = some (.string V) := ⟨HX3.out.cell (i := 0) rfl, HX3.out.cell (i := 1) rfl⟩; clear hb))
    all_goals go_wp2
    all_goals go_ret2
    all_goals exact ⟨_, _, rfl, HR.out _, Below.after HB3.out (HBB.out _)⟩
end Go.Proofs.Ytefpcdpclpignaa
