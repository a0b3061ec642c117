/-
  The document's answer of Unpack of layer 6: where there is enough.
-/
import Derived.Test.YtefpcdpclpignaaKRUnp
namespace Go.Proofs.Ytefpcdpclpignaa
open Go.RowKit M

set_option maxRecDepth 100000 in
set_option maxHeartbeats 8000000 in
theorem runp_refused (a : Option Addr) (n cap : Nat) (S K V : ByteArray) (g : Bool) (x y : UInt8) (r : List UInt8) (hS : Tx S x y r) (hx : x = 1 ∨ x = 2) (hg : g = (x == 2)) (hl : y.toNat + 2 ≤ r.length) (hK : K = bs (r.take y.toNat)) (hV : V = bs (r.drop (y.toNat + 2))) (hbig : S.size ≤ 9223372036854775807) (w : World)
    (hcv : ∀ o : Obj, (convert 43 9 (.slice a n cap)).run Try.prog (w.alloc o) = .ok (.string S) (w.alloc o))
    (hP : ∀ W, Calls Try.prog 35 #[.agg #[.string K, .string V, .bool g]] W fun e w' => e = .returned (.tuple #[.slice none 0 0, .int .i64 22]) ∧ Below W.heap.size W w') :
    Calls Try.prog 43 #[.slice a n cap] w fun e w' => e = .returned (.tuple #[.agg #[.string ⟨#[]⟩, .string ⟨#[]⟩, .bool false], .bool false]) ∧ Below w.heap.size w w' := by
  have hz : S.size = 2 + r.length := by rw [hS.eq, bs_size]; simp; omega
  have hz0 : 0 < S.size := by omega
  have hz1 : 1 < S.size := by omega
  have hz2 : decide ((S.size : Int) < 2) = false := decide_eq_false (by omega)
  have hx0 := hS.at0 hz0
  have hx1 := hS.at1 hz1
  have hy := y.toNat_lt
  obtain ⟨k, ek⟩ : ∃ k, k = y.toNat := ⟨_, rfl⟩
  have hk : (y.toNat : Int) = (k : Int) := by rw [ek]
  rw [← ek] at hl hy hK hV
  have d3 : decide ((S.size : Int) < 2 + (k : Int) + 2) = false := decide_eq_false (by omega)
  have EK : Hid (S.extract 2 (2 + k) = K) := by
    show _ = _
    rw [hK, hS.eq, bs_extract]
    congr 1
    show (r.take (2 + k - 2)) = _
    rw [show 2 + k - 2 = k by omega]
  have EV : Hid (S.extract (2 + k + 2) S.size = V) := by
    show _ = _
    rw [hV, hz, hS.eq, bs_extract]
    congr 1
    rw [List.take_of_length_le (by simp; omega), show 2 + k + 2 = (k + 2) + 2 by omega]
    rfl
  have b1 : (2 : Int) ≤ 2 + (k : Int) := by omega
  have b2 : 2 + (k : Int) ≤ (S.size : Int) := by omega
  have b3 : (0 : Int) ≤ 2 + (k : Int) + 2 := by omega
  have b4 : 2 + (k : Int) + 2 ≤ (S.size : Int) := by omega
  have w1 : IntKind.i64.wrap (2 + (k : Int)) = 2 + (k : Int) := by rw [IntKind.wrap_i64]; omega
  have w2 : IntKind.i64.wrap (2 + (k : Int) + 2) = 2 + (k : Int) + 2 := by rw [IntKind.wrap_i64]; omega
  clear hS ek hK hV hz hl
  rcases hx with rfl | rfl
  · have eg : g = false := hg
    subst eg
    clear hg
    go_enter Try.func43, Try.ntmps43
    go_wp2
    go_region
    rw [EK.out, EV.out]
    obtain ⟨W0, hW⟩ : ∃ W, W = (w.alloc (Obj.cells #[.string ⟨#[]⟩, .string ⟨#[]⟩, .bool false] 34)).alloc (Obj.cells #[.string K, .string V, .bool false] 34) := ⟨_, rfl⟩
    obtain ⟨hR1, hR2, hBW⟩ := two_boxes w [.string ⟨#[]⟩, .string ⟨#[]⟩, .bool false] [.string K, .string V, .bool false] 34 34 W0 hW
    rw [← hW]
    have HR1 : Hid (Row W0.drew w.heap.size [.string ⟨#[]⟩, .string ⟨#[]⟩, .bool false] 34) := hR1.drew
    have HR2 : Hid (Row W0.drew (w.heap.size + 1) [.string K, .string V, .bool false] 34) := hR2.drew
    have HBW : Hid (Below w.heap.size w W0.drew) := hBW.drew
    obtain ⟨W, hW2⟩ : ∃ W, W = W0.drew := ⟨_, rfl⟩
    rw [← hW2] at HR1 HR2 HBW ⊢
    clear hW hW2 hR1 hR2 hBW
    obtain ⟨x0, x1, x2, _, _, _⟩ := HR2.out.seen3
    go_wp2_with (go_at_call 35; refine (hP _).mono ?_; rintro e w1 ⟨rfl, hb⟩; clear x0 x1 x2; obtain ⟨m0, m1, m2, f0, f1, f2⟩ := (HR1.out.later hb).seen3; obtain ⟨x0, x1, x2, _, _, _⟩ := (HR2.out.later hb).seen3; have HB1 : Hid (Below w.heap.size w w1) := Below.after HBW.out hb; clear hb)
    (try simp only [Exit.inBlock, Exit.then])
    refine bodyPost_ret (v := .tuple #[.agg #[.string ⟨#[]⟩, .string ⟨#[]⟩, .bool false], .bool false]) ?_ rfl ⟨rfl, below_set3 HB1.out (Nat.le_refl _) _ _ _⟩
    rw [results_cell_tmp rfl]
    go_simp
  · have eg : g = true := hg
    subst eg
    clear hg
    go_enter Try.func43, Try.ntmps43
    go_wp2
    go_region
    rw [EK.out, EV.out]
    obtain ⟨W0, hW⟩ : ∃ W, W = (w.alloc (Obj.cells #[.string ⟨#[]⟩, .string ⟨#[]⟩, .bool false] 34)).alloc (Obj.cells #[.string K, .string V, .bool true] 34) := ⟨_, rfl⟩
    obtain ⟨hR1, hR2, hBW⟩ := two_boxes w [.string ⟨#[]⟩, .string ⟨#[]⟩, .bool false] [.string K, .string V, .bool true] 34 34 W0 hW
    rw [← hW]
    have HR1 : Hid (Row W0.drew w.heap.size [.string ⟨#[]⟩, .string ⟨#[]⟩, .bool false] 34) := hR1.drew
    have HR2 : Hid (Row W0.drew (w.heap.size + 1) [.string K, .string V, .bool true] 34) := hR2.drew
    have HBW : Hid (Below w.heap.size w W0.drew) := hBW.drew
    obtain ⟨W, hW2⟩ : ∃ W, W = W0.drew := ⟨_, rfl⟩
    rw [← hW2] at HR1 HR2 HBW ⊢
    clear hW hW2 hR1 hR2 hBW
    obtain ⟨x0, x1, x2, _, _, _⟩ := HR2.out.seen3
    go_wp2_with (go_at_call 35; refine (hP _).mono ?_; rintro e w1 ⟨rfl, hb⟩; clear x0 x1 x2; obtain ⟨m0, m1, m2, f0, f1, f2⟩ := (HR1.out.later hb).seen3; obtain ⟨x0, x1, x2, _, _, _⟩ := (HR2.out.later hb).seen3; have HB1 : Hid (Below w.heap.size w w1) := Below.after HBW.out hb; clear hb)
    (try simp only [Exit.inBlock, Exit.then])
    refine bodyPost_ret (v := .tuple #[.agg #[.string ⟨#[]⟩, .string ⟨#[]⟩, .bool false], .bool false]) ?_ rfl ⟨rfl, below_set3 HB1.out (Nat.le_refl _) _ _ _⟩
    rw [results_cell_tmp rfl]
    go_simp

set_option maxRecDepth 100000 in
set_option maxHeartbeats 8000000 in
theorem runp_other (a : Option Addr) (n cap : Nat) (S K V : ByteArray) (g : Bool) (x y : UInt8) (r : List UInt8) (hS : Tx S x y r) (hx : x = 1 ∨ x = 2) (hg : g = (x == 2)) (hl : y.toNat + 2 ≤ r.length) (hK : K = bs (r.take y.toNat)) (hV : V = bs (r.drop (y.toNat + 2))) (hbig : S.size ≤ 9223372036854775807) (w : World)
    (hcv : ∀ o : Obj, (convert 43 9 (.slice a n cap)).run Try.prog (w.alloc o) = .ok (.string S) (w.alloc o))
    (m : Nat) (R : List Nat) (hP : ∀ W, Calls Try.prog 35 #[.agg #[.string K, .string V, .bool g]] W fun e w' => ∃ a cap, e = .returned (.tuple #[.slice a m cap, .int .i64 0]) ∧ BRow w' a R ∧ Below W.heap.size W w') (X : ByteArray) (HC : Hid (∀ (W : World) (a : Option Addr) (c : Nat), BRow W a R → (convert 43 9 (.slice a m c)).run Try.prog W = .ok (.string X) W)) (hXS : (X.toList == S.toList) = false) :
    Calls Try.prog 43 #[.slice a n cap] w fun e w' => e = .returned (.tuple #[.agg #[.string ⟨#[]⟩, .string ⟨#[]⟩, .bool false], .bool false]) ∧ Below w.heap.size w w' := by
  have hz : S.size = 2 + r.length := by rw [hS.eq, bs_size]; simp; omega
  have hz0 : 0 < S.size := by omega
  have hz1 : 1 < S.size := by omega
  have hz2 : decide ((S.size : Int) < 2) = false := decide_eq_false (by omega)
  have hx0 := hS.at0 hz0
  have hx1 := hS.at1 hz1
  have hy := y.toNat_lt
  obtain ⟨k, ek⟩ : ∃ k, k = y.toNat := ⟨_, rfl⟩
  have hk : (y.toNat : Int) = (k : Int) := by rw [ek]
  rw [← ek] at hl hy hK hV
  have d3 : decide ((S.size : Int) < 2 + (k : Int) + 2) = false := decide_eq_false (by omega)
  have EK : Hid (S.extract 2 (2 + k) = K) := by
    show _ = _
    rw [hK, hS.eq, bs_extract]
    congr 1
    show (r.take (2 + k - 2)) = _
    rw [show 2 + k - 2 = k by omega]
  have EV : Hid (S.extract (2 + k + 2) S.size = V) := by
    show _ = _
    rw [hV, hz, hS.eq, bs_extract]
    congr 1
    rw [List.take_of_length_le (by simp; omega), show 2 + k + 2 = (k + 2) + 2 by omega]
    rfl
  have b1 : (2 : Int) ≤ 2 + (k : Int) := by omega
  have b2 : 2 + (k : Int) ≤ (S.size : Int) := by omega
  have b3 : (0 : Int) ≤ 2 + (k : Int) + 2 := by omega
  have b4 : 2 + (k : Int) + 2 ≤ (S.size : Int) := by omega
  have w1 : IntKind.i64.wrap (2 + (k : Int)) = 2 + (k : Int) := by rw [IntKind.wrap_i64]; omega
  have w2 : IntKind.i64.wrap (2 + (k : Int) + 2) = 2 + (k : Int) + 2 := by rw [IntKind.wrap_i64]; omega
  clear hS ek hK hV hz hl
  rcases hx with rfl | rfl
  · have eg : g = false := hg
    subst eg
    clear hg
    go_enter Try.func43, Try.ntmps43
    go_wp2
    go_region
    rw [EK.out, EV.out]
    obtain ⟨W0, hW⟩ : ∃ W, W = (w.alloc (Obj.cells #[.string ⟨#[]⟩, .string ⟨#[]⟩, .bool false] 34)).alloc (Obj.cells #[.string K, .string V, .bool false] 34) := ⟨_, rfl⟩
    obtain ⟨hR1, hR2, hBW⟩ := two_boxes w [.string ⟨#[]⟩, .string ⟨#[]⟩, .bool false] [.string K, .string V, .bool false] 34 34 W0 hW
    rw [← hW]
    have HR1 : Hid (Row W0.drew w.heap.size [.string ⟨#[]⟩, .string ⟨#[]⟩, .bool false] 34) := hR1.drew
    have HR2 : Hid (Row W0.drew (w.heap.size + 1) [.string K, .string V, .bool false] 34) := hR2.drew
    have HBW : Hid (Below w.heap.size w W0.drew) := hBW.drew
    obtain ⟨W, hW2⟩ : ∃ W, W = W0.drew := ⟨_, rfl⟩
    rw [← hW2] at HR1 HR2 HBW ⊢
    clear hW hW2 hR1 hR2 hBW
    obtain ⟨x0, x1, x2, _, _, _⟩ := HR2.out.seen3
    go_wp2_with (go_at_call 35; refine (hP _).mono ?_; rintro e w1 ⟨a1, c1, rfl, hr, hb⟩; have hc1 := HC.out _ a1 c1 hr; clear hr; clear x0 x1 x2; obtain ⟨m0, m1, m2, f0, f1, f2⟩ := (HR1.out.later hb).seen3; obtain ⟨x0, x1, x2, _, _, _⟩ := (HR2.out.later hb).seen3; have HB1 : Hid (Below w.heap.size w w1) := Below.after HBW.out hb; clear hb)
    (try simp only [Exit.inBlock, Exit.then])
    refine bodyPost_ret (v := .tuple #[.agg #[.string ⟨#[]⟩, .string ⟨#[]⟩, .bool false], .bool false]) ?_ rfl ⟨rfl, below_set3 HB1.out (Nat.le_refl _) _ _ _⟩
    rw [results_cell_tmp rfl]
    go_simp
  · have eg : g = true := hg
    subst eg
    clear hg
    go_enter Try.func43, Try.ntmps43
    go_wp2
    go_region
    rw [EK.out, EV.out]
    obtain ⟨W0, hW⟩ : ∃ W, W = (w.alloc (Obj.cells #[.string ⟨#[]⟩, .string ⟨#[]⟩, .bool false] 34)).alloc (Obj.cells #[.string K, .string V, .bool true] 34) := ⟨_, rfl⟩
    obtain ⟨hR1, hR2, hBW⟩ := two_boxes w [.string ⟨#[]⟩, .string ⟨#[]⟩, .bool false] [.string K, .string V, .bool true] 34 34 W0 hW
    rw [← hW]
    have HR1 : Hid (Row W0.drew w.heap.size [.string ⟨#[]⟩, .string ⟨#[]⟩, .bool false] 34) := hR1.drew
    have HR2 : Hid (Row W0.drew (w.heap.size + 1) [.string K, .string V, .bool true] 34) := hR2.drew
    have HBW : Hid (Below w.heap.size w W0.drew) := hBW.drew
    obtain ⟨W, hW2⟩ : ∃ W, W = W0.drew := ⟨_, rfl⟩
    rw [← hW2] at HR1 HR2 HBW ⊢
    clear hW hW2 hR1 hR2 hBW
    obtain ⟨x0, x1, x2, _, _, _⟩ := HR2.out.seen3
    go_wp2_with (go_at_call 35; refine (hP _).mono ?_; rintro e w1 ⟨a1, c1, rfl, hr, hb⟩; have hc1 := HC.out _ a1 c1 hr; clear hr; clear x0 x1 x2; obtain ⟨m0, m1, m2, f0, f1, f2⟩ := (HR1.out.later hb).seen3; obtain ⟨x0, x1, x2, _, _, _⟩ := (HR2.out.later hb).seen3; have HB1 : Hid (Below w.heap.size w w1) := Below.after HBW.out hb; clear hb)
    (try simp only [Exit.inBlock, Exit.then])
    refine bodyPost_ret (v := .tuple #[.agg #[.string ⟨#[]⟩, .string ⟨#[]⟩, .bool false], .bool false]) ?_ rfl ⟨rfl, below_set3 HB1.out (Nat.le_refl _) _ _ _⟩
    rw [results_cell_tmp rfl]
    go_simp

set_option maxRecDepth 100000 in
set_option maxHeartbeats 8000000 in
theorem runp_yes (a : Option Addr) (n cap : Nat) (S K V : ByteArray) (g : Bool) (x y : UInt8) (r : List UInt8) (hS : Tx S x y r) (hx : x = 1 ∨ x = 2) (hg : g = (x == 2)) (hl : y.toNat + 2 ≤ r.length) (hK : K = bs (r.take y.toNat)) (hV : V = bs (r.drop (y.toNat + 2))) (hbig : S.size ≤ 9223372036854775807) (w : World)
    (hcv : ∀ o : Obj, (convert 43 9 (.slice a n cap)).run Try.prog (w.alloc o) = .ok (.string S) (w.alloc o))
    (m : Nat) (R : List Nat) (hP : ∀ W, Calls Try.prog 35 #[.agg #[.string K, .string V, .bool g]] W fun e w' => ∃ a cap, e = .returned (.tuple #[.slice a m cap, .int .i64 0]) ∧ BRow w' a R ∧ Below W.heap.size W w') (X : ByteArray) (HC : Hid (∀ (W : World) (a : Option Addr) (c : Nat), BRow W a R → (convert 43 9 (.slice a m c)).run Try.prog W = .ok (.string X) W)) (hXS : (X.toList == S.toList) = true) :
    Calls Try.prog 43 #[.slice a n cap] w fun e w' => e = .returned (.tuple #[.agg #[.string K, .string V, .bool g], .bool true]) ∧ Below w.heap.size w w' := by
  have hz : S.size = 2 + r.length := by rw [hS.eq, bs_size]; simp; omega
  have hz0 : 0 < S.size := by omega
  have hz1 : 1 < S.size := by omega
  have hz2 : decide ((S.size : Int) < 2) = false := decide_eq_false (by omega)
  have hx0 := hS.at0 hz0
  have hx1 := hS.at1 hz1
  have hy := y.toNat_lt
  obtain ⟨k, ek⟩ : ∃ k, k = y.toNat := ⟨_, rfl⟩
  have hk : (y.toNat : Int) = (k : Int) := by rw [ek]
  rw [← ek] at hl hy hK hV
  have d3 : decide ((S.size : Int) < 2 + (k : Int) + 2) = false := decide_eq_false (by omega)
  have EK : Hid (S.extract 2 (2 + k) = K) := by
    show _ = _
    rw [hK, hS.eq, bs_extract]
    congr 1
    show (r.take (2 + k - 2)) = _
    rw [show 2 + k - 2 = k by omega]
  have EV : Hid (S.extract (2 + k + 2) S.size = V) := by
    show _ = _
    rw [hV, hz, hS.eq, bs_extract]
    congr 1
    rw [List.take_of_length_le (by simp; omega), show 2 + k + 2 = (k + 2) + 2 by omega]
    rfl
  have b1 : (2 : Int) ≤ 2 + (k : Int) := by omega
  have b2 : 2 + (k : Int) ≤ (S.size : Int) := by omega
  have b3 : (0 : Int) ≤ 2 + (k : Int) + 2 := by omega
  have b4 : 2 + (k : Int) + 2 ≤ (S.size : Int) := by omega
  have w1 : IntKind.i64.wrap (2 + (k : Int)) = 2 + (k : Int) := by rw [IntKind.wrap_i64]; omega
  have w2 : IntKind.i64.wrap (2 + (k : Int) + 2) = 2 + (k : Int) + 2 := by rw [IntKind.wrap_i64]; omega
  clear hS ek hK hV hz hl
  rcases hx with rfl | rfl
  · have eg : g = false := hg
    subst eg
    clear hg
    go_enter Try.func43, Try.ntmps43
    go_wp2
    go_region
    rw [EK.out, EV.out]
    obtain ⟨W0, hW⟩ : ∃ W, W = (w.alloc (Obj.cells #[.string ⟨#[]⟩, .string ⟨#[]⟩, .bool false] 34)).alloc (Obj.cells #[.string K, .string V, .bool false] 34) := ⟨_, rfl⟩
    obtain ⟨hR1, hR2, hBW⟩ := two_boxes w [.string ⟨#[]⟩, .string ⟨#[]⟩, .bool false] [.string K, .string V, .bool false] 34 34 W0 hW
    rw [← hW]
    have HR1 : Hid (Row W0.drew w.heap.size [.string ⟨#[]⟩, .string ⟨#[]⟩, .bool false] 34) := hR1.drew
    have HR2 : Hid (Row W0.drew (w.heap.size + 1) [.string K, .string V, .bool false] 34) := hR2.drew
    have HBW : Hid (Below w.heap.size w W0.drew) := hBW.drew
    obtain ⟨W, hW2⟩ : ∃ W, W = W0.drew := ⟨_, rfl⟩
    rw [← hW2] at HR1 HR2 HBW ⊢
    clear hW hW2 hR1 hR2 hBW
    obtain ⟨x0, x1, x2, _, _, _⟩ := HR2.out.seen3
    go_wp2_with (go_at_call 35; refine (hP _).mono ?_; rintro e w1 ⟨a1, c1, rfl, hr, hb⟩; have hc1 := HC.out _ a1 c1 hr; clear hr; clear x0 x1 x2; obtain ⟨m0, m1, m2, f0, f1, f2⟩ := (HR1.out.later hb).seen3; obtain ⟨x0, x1, x2, _, _, _⟩ := (HR2.out.later hb).seen3; have HB1 : Hid (Below w.heap.size w w1) := Below.after HBW.out hb; clear hb)
    (try simp only [Exit.inBlock, Exit.then])
    refine bodyPost_ret (v := .tuple #[.agg #[.string K, .string V, .bool false], .bool true]) ?_ rfl ⟨rfl, below_set3 HB1.out (Nat.le_refl _) _ _ _⟩
    rw [results_cell_tmp rfl]
    go_simp
  · have eg : g = true := hg
    subst eg
    clear hg
    go_enter Try.func43, Try.ntmps43
    go_wp2
    go_region
    rw [EK.out, EV.out]
    obtain ⟨W0, hW⟩ : ∃ W, W = (w.alloc (Obj.cells #[.string ⟨#[]⟩, .string ⟨#[]⟩, .bool false] 34)).alloc (Obj.cells #[.string K, .string V, .bool true] 34) := ⟨_, rfl⟩
    obtain ⟨hR1, hR2, hBW⟩ := two_boxes w [.string ⟨#[]⟩, .string ⟨#[]⟩, .bool false] [.string K, .string V, .bool true] 34 34 W0 hW
    rw [← hW]
    have HR1 : Hid (Row W0.drew w.heap.size [.string ⟨#[]⟩, .string ⟨#[]⟩, .bool false] 34) := hR1.drew
    have HR2 : Hid (Row W0.drew (w.heap.size + 1) [.string K, .string V, .bool true] 34) := hR2.drew
    have HBW : Hid (Below w.heap.size w W0.drew) := hBW.drew
    obtain ⟨W, hW2⟩ : ∃ W, W = W0.drew := ⟨_, rfl⟩
    rw [← hW2] at HR1 HR2 HBW ⊢
    clear hW hW2 hR1 hR2 hBW
    obtain ⟨x0, x1, x2, _, _, _⟩ := HR2.out.seen3
    go_wp2_with (go_at_call 35; refine (hP _).mono ?_; rintro e w1 ⟨a1, c1, rfl, hr, hb⟩; have hc1 := HC.out _ a1 c1 hr; clear hr; clear x0 x1 x2; obtain ⟨m0, m1, m2, f0, f1, f2⟩ := (HR1.out.later hb).seen3; obtain ⟨x0, x1, x2, _, _, _⟩ := (HR2.out.later hb).seen3; have HB1 : Hid (Below w.heap.size w w1) := Below.after HBW.out hb; clear hb)
    (try simp only [Exit.inBlock, Exit.then])
    refine bodyPost_ret (v := .tuple #[.agg #[.string K, .string V, .bool true], .bool true]) ?_ rfl ⟨rfl, below_set3 HB1.out (Nat.le_refl _) _ _ _⟩
    rw [results_cell_tmp rfl]
    go_simp

end Go.Proofs.Ytefpcdpclpignaa
