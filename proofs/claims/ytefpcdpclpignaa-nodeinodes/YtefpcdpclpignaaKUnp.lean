/-
  What Size, Unpack and ParseMark of package node answer.
-/
import Derived.Test.YtefpcdpclpignaaKRd3
namespace Go.Proofs.Ytefpcdpclpignaa
open Go.RowKit M

def Nd.sz (n : Nd) : Nat := bif n.ok then 10 + n.key.length + n.val.length else 0
set_option maxRecDepth 10000 in
set_option maxHeartbeats 1000000 in
theorem size_any (n : Nd) (hk : n.key.length ≤ maxLen) (hv : n.val.length ≤ maxLen) (w : World) :
    Calls Try.prog 40 #[n.v] w fun e w' => e = .returned (.int .i64 (n.sz : Nat)) ∧ Below w.heap.size w w' := by
  have hr := fun W => nright_any n hk hv W
  unfold Nd.sz
  cases ho : n.ok
  · rw [ho] at hr
    obtain ⟨key, val, gone⟩ := n
    clear ho hk hv
    unfold Nd.v Nd.cells at hr ⊢
    dsimp only at hr ⊢
    go_enter Try.func40, Try.ntmps40
    go_wp2_with (go_at_call 38; refine (hr _).mono ?_; rintro e w1 ⟨rfl, hb⟩; have HB1 : Hid (Below w.heap.size w w1) := Below.after (below_new _ _) hb; clear hb)
    go_ret
    exact ⟨rfl, HB1.out⟩
  · obtain ⟨_, q2, q3, _⟩ := Nd.ok_le ho
    have hp := fun W => packed_any n q2 q3 W
    rw [ho] at hr
    obtain ⟨key, val, gone⟩ := n
    dsimp only at q2 q3
    clear ho hk hv
    unfold Nd.v Nd.cells at hr hp ⊢
    dsimp only at hr hp ⊢
    obtain ⟨K, eK⟩ : ∃ K, K = bs key := ⟨_, rfl⟩
    obtain ⟨V, eV⟩ : ∃ V, V = bs val := ⟨_, rfl⟩
    rw [← eK, ← eV] at hr hp
    rw [← eK, ← eV]
    obtain ⟨c, ec⟩ : ∃ c, c = 4 + key.length + val.length := ⟨_, rfl⟩
    have hc : c ≤ 324 := by omega
    have e10 : 10 + key.length + val.length = 6 + c := by omega
    rw [← ec] at hp
    rw [cond_true, e10]
    clear eK eV ec e10 q2 q3
    go_enter Try.func40, Try.ntmps40
    go_wp2_with (first
      | (go_at_call 38; refine (hr _).mono ?_; rintro e w1 ⟨rfl, hb⟩; obtain ⟨x0, x1, x2, _, _, _⟩ := ((Row.new w [.string K, .string V, .bool gone] 34).later hb).seen3; have HB1 : Hid (Below w.heap.size w w1) := Below.after (below_new _ _) hb; clear hb)
      | (go_at_call 69; refine (hp _).mono ?_; rintro e w2 ⟨rfl, hb⟩; have HB2 : Hid (Below w.heap.size w w2) := Below.after HB1.out hb; clear hb))
    go_ret
    exact ⟨by simp, HB2.out⟩

/-- The result's box and a reader: they lie on. -/
structure PJ (w W : World) (RB : Nat) (zs : List Value) (t2 t : TypeId) (r : List UInt8) (sh : Bool) : Prop where
  r2 : Row W w.heap.size zs t2
  rd : Rd W RB t r sh
  bel : Below w.heap.size w W
  far : w.heap.size < RB
theorem PJ.later {w W W' : World} {RB : Nat} {zs : List Value} {t2 t : TypeId} {r : List UInt8} {sh : Bool} (h : PJ w W RB zs t2 t r sh) (hb : Below W.heap.size W W') : PJ w W' RB zs t2 t r sh :=
  ⟨h.r2.later hb, Row.later h.rd hb, Below.after h.bel hb, h.far⟩
theorem PJ.step {w W W' : World} {RB : Nat} {zs : List Value} {t2 t : TypeId} {r r' : List UInt8} {sh sh' : Bool} (h : PJ w W RB zs t2 t r sh) (p : RPost W RB t r' sh' W') : PJ w W' RB zs t2 t r' sh' :=
  ⟨h.r2.kept p.kept (by have := h.far; omega), p.rd, h.bel.trans (p.kept.below h.bel.size (fun k e => by have := h.far; omega)), h.far⟩
theorem PJ.start {w W w2 : World} {zs : List Value} {t2 t : TypeId} {r : List UInt8} {sh : Bool} (h2 : Row W w.heap.size zs t2) (hb : Below w.heap.size w W) (hr : Rd w2 W.heap.size t r sh) (hb2 : Below W.heap.size W w2) : PJ w w2 W.heap.size zs t2 t r sh :=
  ⟨h2.later hb2, hr, Below.after hb hb2, h2.lt⟩

abbrev TagAt (l r : List UInt8) (s s' : Bool) (f : Nat) : Prop := ∀ (W : World) (B : Nat), Rd W B 88 l s → Calls Try.prog 75 #[.pointer (some ⟨B, 0, none⟩)] W fun e w' => e = .returned (.int .u8 (f : Int)) ∧ RPost W B 88 r s' w'
abbrev CountedAt (m : Int) (l r : List UInt8) (s s' : Bool) (v : ByteArray) : Prop := ∀ (W : World) (B : Nat), Rd W B 88 l s → Calls Try.prog 76 #[.pointer (some ⟨B, 0, none⟩), .int .i64 m] W fun e w' => e = .returned (.string v) ∧ RPost W B 88 r s' w'
abbrev PDoneAt (r : List UInt8) (s : Bool) (d : Bool) : Prop := ∀ (W : World) (B : Nat), Rd W B 88 r s → Calls Try.prog 53 #[.pointer (some ⟨B, 0, none⟩)] W fun e w' => e = .returned (.bool d) ∧ W = w'

theorem unpack_long (a : Option Addr) (n cap : Nat) (h : 324 < n) (w : World) :
    Calls Try.prog 42 #[.slice a n cap] w fun e w' => e = .returned (.tuple #[Nd.zero.v, .bool false]) ∧ Below w.heap.size w w' := by
  have h1 : (324 : Int) < (n : Int) := by omega
  go_enter Try.func42, Try.ntmps42
  go_wp2
  (try simp only [Exit.inBlock, Exit.then])
  refine bodyPost_ret (v := .tuple #[Nd.zero.v, .bool false]) ?_ rfl ⟨rfl, ?_⟩
  · rw [results_cell_tmp rfl]
    go_simp
    rfl
  · first | exact below_set3 (below_new _ _) (Nat.le_refl _) _ _ _ | exact below_new _ _

set_option maxRecDepth 10000 in
set_option maxHeartbeats 4000000 in
theorem unp_short (a : Option Addr) (n cap : Nat) (K V : ByteArray) (r0 r1 r2 r3 : List UInt8) (s1 s2 s3 : Bool) (tg tg2 : Nat) (w : World) (hn : n ≤ 324)
    (hP : ∀ W, Below w.heap.size w W → Calls Try.prog 74 #[.slice a n cap] W fun e w' => e = .returned (.pointer (some ⟨W.heap.size, 0, none⟩)) ∧ Rd w' W.heap.size 88 r0 false ∧ Below W.heap.size W w')
    (h1 : TagAt r0 r1 false s1 tg) (h2 : CountedAt 1 r1 r2 s1 s2 K) (h3 : CountedAt 2 r2 r3 s2 s3 V)
    (o : Bool) (hd : PDoneAt r3 s3 false) (_ho : ∀ W, Calls Try.prog 38 #[.agg #[.string K, .string V, .bool ((tg : Int) == 2)]] W fun e w' => e = .returned (.bool o) ∧ Below W.heap.size W w') (_ht : ∀ W, Calls Try.prog 70 #[.agg #[.string K, .string V, .bool ((tg : Int) == 2)]] W fun e w' => e = .returned (.int .u8 (tg2 : Int)) ∧ Below W.heap.size W w') :
    Calls Try.prog 42 #[.slice a n cap] w fun e w' => e = .returned (.tuple #[.agg #[.string ⟨#[]⟩, .string ⟨#[]⟩, .bool false], .bool false]) ∧ Below w.heap.size w w' := by
  obtain ⟨W, hW⟩ : ∃ W, W = w.alloc (.cells #[.string ⟨#[]⟩, .string ⟨#[]⟩, .bool false] 34) := ⟨_, rfl⟩
  have HBW : Hid (Below w.heap.size w W) := by rw [hW]; exact below_new _ _
  have HR : Hid (Row W w.heap.size [.string ⟨#[]⟩, .string ⟨#[]⟩, .bool false] 34) := by rw [hW]; exact Row.new w [_, _, _] _
  have hn1 : ¬ (324 : Int) < (n : Int) := by omega
  have M1 : Hid True := trivial
  go_enter Try.func42, Try.ntmps42
  go_wp2_with fail
  rw [← hW]
  clear hW
  go_wp2_with (first
    | (go_at_call 74; refine (hP _ HBW.out).mono ?_; rintro e w2 ⟨rfl, hr, hb⟩; have P0 : Hid (PJ w w2 W.heap.size [.string ⟨#[]⟩, .string ⟨#[]⟩, .bool false] 34 88 r0 false) := PJ.start HR.out HBW.out hr hb; clear hr hb)
    | (go_at_call 75; refine (h1 _ _ P0.out.rd).mono ?_; rintro e w3 ⟨rfl, p⟩; have P1 : Hid (PJ w w3 W.heap.size [.string ⟨#[]⟩, .string ⟨#[]⟩, .bool false] 34 88 r1 s1) := P0.out.step p; clear p)
    | (go_at_call 76; clear M1; refine (h2 _ _ P1.out.rd).mono ?_; rintro e w4 ⟨rfl, p⟩; have P2 : Hid (PJ w w4 W.heap.size [.string ⟨#[]⟩, .string ⟨#[]⟩, .bool false] 34 88 r2 s2) := P1.out.step p; clear p)
    | (go_at_call 76; refine (h3 _ _ P2.out.rd).mono ?_; rintro e w5 ⟨rfl, p⟩; have P3 : Hid (PJ w w5 W.heap.size [.string ⟨#[]⟩, .string ⟨#[]⟩, .bool false] 34 88 r3 s3) := P2.out.step p; clear p; have P7 : Hid (PJ w (w5.alloc (.cells #[.string K, .string V, .bool ((tg : Int) == 2)] 34)) W.heap.size [.string ⟨#[]⟩, .string ⟨#[]⟩, .bool false] 34 88 r3 s3) := P3.out.later (below_new _ _); have R7 : Hid (Row (w5.alloc (.cells #[.string K, .string V, .bool ((tg : Int) == 2)] 34)) w5.heap.size [.string K, .string V, .bool ((tg : Int) == 2)] 34) := Row.new w5 [.string K, .string V, .bool ((tg : Int) == 2)] 34; obtain ⟨m0, m1, m2, g0, g1, g2⟩ := P7.out.r2.seen3; obtain ⟨y0, y1, y2, _, _, _⟩ := P3.out.r2.seen3)
    | (go_at_call 53; refine (hd _ _ P7.out.rd).mono ?_; rintro e w9 ⟨rfl, rfl⟩)
    | (go_at_call 38; clear m0 m1 m2 g0 g1 g2 y0 y1 y2; refine (ho _).mono ?_; rintro e w9 ⟨rfl, hb⟩; have P9 : Hid (PJ w w9 W.heap.size [.string ⟨#[]⟩, .string ⟨#[]⟩, .bool false] 34 88 r3 s3) := P7.out.later hb; have R9 : Hid (Row w9 w5.heap.size [.string K, .string V, .bool ((tg : Int) == 2)] 34) := R7.out.later hb; obtain ⟨m0, m1, m2, g0, g1, g2⟩ := P9.out.r2.seen3; obtain ⟨n0, n1, n2, _, _, _⟩ := R9.out.seen3; clear hb)
    | (go_at_call 70; clear m0 m1 m2 g0 g1 g2 n0 n1 n2; refine (ht _).mono ?_; rintro e w10 ⟨rfl, hb⟩; have P10 : Hid (PJ w w10 W.heap.size [.string ⟨#[]⟩, .string ⟨#[]⟩, .bool false] 34 88 r3 s3) := P9.out.later hb; have R10 : Hid (Row w10 w5.heap.size [.string K, .string V, .bool ((tg : Int) == 2)] 34) := R9.out.later hb; obtain ⟨m0, m1, m2, g0, g1, g2⟩ := P10.out.r2.seen3; obtain ⟨n0, n1, n2, _, _, _⟩ := R10.out.seen3; clear hb))
  (try simp only [Exit.inBlock, Exit.then])
  refine bodyPost_ret (v := .tuple #[.agg #[.string ⟨#[]⟩, .string ⟨#[]⟩, .bool false], .bool false]) ?_ rfl ⟨rfl, below_set3 P7.out.bel (by omega) _ _ _⟩
  rw [results_cell_tmp rfl]
  go_simp

set_option maxRecDepth 10000 in
set_option maxHeartbeats 4000000 in
theorem unp_wrong (a : Option Addr) (n cap : Nat) (K V : ByteArray) (r0 r1 r2 r3 : List UInt8) (s1 s2 s3 : Bool) (tg tg2 : Nat) (w : World) (hn : n ≤ 324)
    (hP : ∀ W, Below w.heap.size w W → Calls Try.prog 74 #[.slice a n cap] W fun e w' => e = .returned (.pointer (some ⟨W.heap.size, 0, none⟩)) ∧ Rd w' W.heap.size 88 r0 false ∧ Below W.heap.size W w')
    (h1 : TagAt r0 r1 false s1 tg) (h2 : CountedAt 1 r1 r2 s1 s2 K) (h3 : CountedAt 2 r2 r3 s2 s3 V)
    (hd : PDoneAt r3 s3 true) (ho : ∀ W, Calls Try.prog 38 #[.agg #[.string K, .string V, .bool ((tg : Int) == 2)]] W fun e w' => e = .returned (.bool false) ∧ Below W.heap.size W w') (_ht : ∀ W, Calls Try.prog 70 #[.agg #[.string K, .string V, .bool ((tg : Int) == 2)]] W fun e w' => e = .returned (.int .u8 (tg2 : Int)) ∧ Below W.heap.size W w') :
    Calls Try.prog 42 #[.slice a n cap] w fun e w' => e = .returned (.tuple #[.agg #[.string ⟨#[]⟩, .string ⟨#[]⟩, .bool false], .bool false]) ∧ Below w.heap.size w w' := by
  obtain ⟨W, hW⟩ : ∃ W, W = w.alloc (.cells #[.string ⟨#[]⟩, .string ⟨#[]⟩, .bool false] 34) := ⟨_, rfl⟩
  have HBW : Hid (Below w.heap.size w W) := by rw [hW]; exact below_new _ _
  have HR : Hid (Row W w.heap.size [.string ⟨#[]⟩, .string ⟨#[]⟩, .bool false] 34) := by rw [hW]; exact Row.new w [_, _, _] _
  have hn1 : ¬ (324 : Int) < (n : Int) := by omega
  have M1 : Hid True := trivial
  go_enter Try.func42, Try.ntmps42
  go_wp2_with fail
  rw [← hW]
  clear hW
  go_wp2_with (first
    | (go_at_call 74; refine (hP _ HBW.out).mono ?_; rintro e w2 ⟨rfl, hr, hb⟩; have P0 : Hid (PJ w w2 W.heap.size [.string ⟨#[]⟩, .string ⟨#[]⟩, .bool false] 34 88 r0 false) := PJ.start HR.out HBW.out hr hb; clear hr hb)
    | (go_at_call 75; refine (h1 _ _ P0.out.rd).mono ?_; rintro e w3 ⟨rfl, p⟩; have P1 : Hid (PJ w w3 W.heap.size [.string ⟨#[]⟩, .string ⟨#[]⟩, .bool false] 34 88 r1 s1) := P0.out.step p; clear p)
    | (go_at_call 76; clear M1; refine (h2 _ _ P1.out.rd).mono ?_; rintro e w4 ⟨rfl, p⟩; have P2 : Hid (PJ w w4 W.heap.size [.string ⟨#[]⟩, .string ⟨#[]⟩, .bool false] 34 88 r2 s2) := P1.out.step p; clear p)
    | (go_at_call 76; refine (h3 _ _ P2.out.rd).mono ?_; rintro e w5 ⟨rfl, p⟩; have P3 : Hid (PJ w w5 W.heap.size [.string ⟨#[]⟩, .string ⟨#[]⟩, .bool false] 34 88 r3 s3) := P2.out.step p; clear p; have P7 : Hid (PJ w (w5.alloc (.cells #[.string K, .string V, .bool ((tg : Int) == 2)] 34)) W.heap.size [.string ⟨#[]⟩, .string ⟨#[]⟩, .bool false] 34 88 r3 s3) := P3.out.later (below_new _ _); have R7 : Hid (Row (w5.alloc (.cells #[.string K, .string V, .bool ((tg : Int) == 2)] 34)) w5.heap.size [.string K, .string V, .bool ((tg : Int) == 2)] 34) := Row.new w5 [.string K, .string V, .bool ((tg : Int) == 2)] 34; obtain ⟨m0, m1, m2, g0, g1, g2⟩ := P7.out.r2.seen3; obtain ⟨y0, y1, y2, _, _, _⟩ := P3.out.r2.seen3)
    | (go_at_call 53; refine (hd _ _ P7.out.rd).mono ?_; rintro e w9 ⟨rfl, rfl⟩)
    | (go_at_call 38; clear m0 m1 m2 g0 g1 g2 y0 y1 y2; refine (ho _).mono ?_; rintro e w9 ⟨rfl, hb⟩; have P9 : Hid (PJ w w9 W.heap.size [.string ⟨#[]⟩, .string ⟨#[]⟩, .bool false] 34 88 r3 s3) := P7.out.later hb; have R9 : Hid (Row w9 w5.heap.size [.string K, .string V, .bool ((tg : Int) == 2)] 34) := R7.out.later hb; obtain ⟨m0, m1, m2, g0, g1, g2⟩ := P9.out.r2.seen3; obtain ⟨n0, n1, n2, _, _, _⟩ := R9.out.seen3; clear hb)
    | (go_at_call 70; clear m0 m1 m2 g0 g1 g2 n0 n1 n2; refine (ht _).mono ?_; rintro e w10 ⟨rfl, hb⟩; have P10 : Hid (PJ w w10 W.heap.size [.string ⟨#[]⟩, .string ⟨#[]⟩, .bool false] 34 88 r3 s3) := P9.out.later hb; have R10 : Hid (Row w10 w5.heap.size [.string K, .string V, .bool ((tg : Int) == 2)] 34) := R9.out.later hb; obtain ⟨m0, m1, m2, g0, g1, g2⟩ := P10.out.r2.seen3; obtain ⟨n0, n1, n2, _, _, _⟩ := R10.out.seen3; clear hb))
  (try simp only [Exit.inBlock, Exit.then])
  refine bodyPost_ret (v := .tuple #[.agg #[.string ⟨#[]⟩, .string ⟨#[]⟩, .bool false], .bool false]) ?_ rfl ⟨rfl, below_set3 P9.out.bel (by omega) _ _ _⟩
  rw [results_cell_tmp rfl]
  go_simp

set_option maxRecDepth 10000 in
set_option maxHeartbeats 4000000 in
theorem unp_tag (a : Option Addr) (n cap : Nat) (K V : ByteArray) (r0 r1 r2 r3 : List UInt8) (s1 s2 s3 : Bool) (tg tg2 : Nat) (w : World) (hn : n ≤ 324)
    (hP : ∀ W, Below w.heap.size w W → Calls Try.prog 74 #[.slice a n cap] W fun e w' => e = .returned (.pointer (some ⟨W.heap.size, 0, none⟩)) ∧ Rd w' W.heap.size 88 r0 false ∧ Below W.heap.size W w')
    (h1 : TagAt r0 r1 false s1 tg) (h2 : CountedAt 1 r1 r2 s1 s2 K) (h3 : CountedAt 2 r2 r3 s2 s3 V)
    (hd : PDoneAt r3 s3 true) (ho : ∀ W, Calls Try.prog 38 #[.agg #[.string K, .string V, .bool ((tg : Int) == 2)]] W fun e w' => e = .returned (.bool true) ∧ Below W.heap.size W w') (ht : ∀ W, Calls Try.prog 70 #[.agg #[.string K, .string V, .bool ((tg : Int) == 2)]] W fun e w' => e = .returned (.int .u8 (tg2 : Int)) ∧ Below W.heap.size W w') (hne : ((tg : Int) != (tg2 : Int)) = true) :
    Calls Try.prog 42 #[.slice a n cap] w fun e w' => e = .returned (.tuple #[.agg #[.string ⟨#[]⟩, .string ⟨#[]⟩, .bool false], .bool false]) ∧ Below w.heap.size w w' := by
  obtain ⟨W, hW⟩ : ∃ W, W = w.alloc (.cells #[.string ⟨#[]⟩, .string ⟨#[]⟩, .bool false] 34) := ⟨_, rfl⟩
  have HBW : Hid (Below w.heap.size w W) := by rw [hW]; exact below_new _ _
  have HR : Hid (Row W w.heap.size [.string ⟨#[]⟩, .string ⟨#[]⟩, .bool false] 34) := by rw [hW]; exact Row.new w [_, _, _] _
  have hn1 : ¬ (324 : Int) < (n : Int) := by omega
  have M1 : Hid True := trivial
  go_enter Try.func42, Try.ntmps42
  go_wp2_with fail
  rw [← hW]
  clear hW
  go_wp2_with (first
    | (go_at_call 74; refine (hP _ HBW.out).mono ?_; rintro e w2 ⟨rfl, hr, hb⟩; have P0 : Hid (PJ w w2 W.heap.size [.string ⟨#[]⟩, .string ⟨#[]⟩, .bool false] 34 88 r0 false) := PJ.start HR.out HBW.out hr hb; clear hr hb)
    | (go_at_call 75; refine (h1 _ _ P0.out.rd).mono ?_; rintro e w3 ⟨rfl, p⟩; have P1 : Hid (PJ w w3 W.heap.size [.string ⟨#[]⟩, .string ⟨#[]⟩, .bool false] 34 88 r1 s1) := P0.out.step p; clear p)
    | (go_at_call 76; clear M1; refine (h2 _ _ P1.out.rd).mono ?_; rintro e w4 ⟨rfl, p⟩; have P2 : Hid (PJ w w4 W.heap.size [.string ⟨#[]⟩, .string ⟨#[]⟩, .bool false] 34 88 r2 s2) := P1.out.step p; clear p)
    | (go_at_call 76; refine (h3 _ _ P2.out.rd).mono ?_; rintro e w5 ⟨rfl, p⟩; have P3 : Hid (PJ w w5 W.heap.size [.string ⟨#[]⟩, .string ⟨#[]⟩, .bool false] 34 88 r3 s3) := P2.out.step p; clear p; have P7 : Hid (PJ w (w5.alloc (.cells #[.string K, .string V, .bool ((tg : Int) == 2)] 34)) W.heap.size [.string ⟨#[]⟩, .string ⟨#[]⟩, .bool false] 34 88 r3 s3) := P3.out.later (below_new _ _); have R7 : Hid (Row (w5.alloc (.cells #[.string K, .string V, .bool ((tg : Int) == 2)] 34)) w5.heap.size [.string K, .string V, .bool ((tg : Int) == 2)] 34) := Row.new w5 [.string K, .string V, .bool ((tg : Int) == 2)] 34; obtain ⟨m0, m1, m2, g0, g1, g2⟩ := P7.out.r2.seen3; obtain ⟨y0, y1, y2, _, _, _⟩ := P3.out.r2.seen3)
    | (go_at_call 53; refine (hd _ _ P7.out.rd).mono ?_; rintro e w9 ⟨rfl, rfl⟩)
    | (go_at_call 38; clear m0 m1 m2 g0 g1 g2 y0 y1 y2; refine (ho _).mono ?_; rintro e w9 ⟨rfl, hb⟩; have P9 : Hid (PJ w w9 W.heap.size [.string ⟨#[]⟩, .string ⟨#[]⟩, .bool false] 34 88 r3 s3) := P7.out.later hb; have R9 : Hid (Row w9 w5.heap.size [.string K, .string V, .bool ((tg : Int) == 2)] 34) := R7.out.later hb; obtain ⟨m0, m1, m2, g0, g1, g2⟩ := P9.out.r2.seen3; obtain ⟨n0, n1, n2, _, _, _⟩ := R9.out.seen3; clear hb)
    | (go_at_call 70; clear m0 m1 m2 g0 g1 g2 n0 n1 n2; refine (ht _).mono ?_; rintro e w10 ⟨rfl, hb⟩; have P10 : Hid (PJ w w10 W.heap.size [.string ⟨#[]⟩, .string ⟨#[]⟩, .bool false] 34 88 r3 s3) := P9.out.later hb; have R10 : Hid (Row w10 w5.heap.size [.string K, .string V, .bool ((tg : Int) == 2)] 34) := R9.out.later hb; obtain ⟨m0, m1, m2, g0, g1, g2⟩ := P10.out.r2.seen3; obtain ⟨n0, n1, n2, _, _, _⟩ := R10.out.seen3; clear hb))
  (try simp only [Exit.inBlock, Exit.then])
  refine bodyPost_ret (v := .tuple #[.agg #[.string ⟨#[]⟩, .string ⟨#[]⟩, .bool false], .bool false]) ?_ rfl ⟨rfl, below_set3 P10.out.bel (by omega) _ _ _⟩
  rw [results_cell_tmp rfl]
  go_simp

set_option maxRecDepth 10000 in
set_option maxHeartbeats 4000000 in
theorem unp_yes (a : Option Addr) (n cap : Nat) (K V : ByteArray) (r0 r1 r2 r3 : List UInt8) (s1 s2 s3 : Bool) (tg tg2 : Nat) (w : World) (hn : n ≤ 324)
    (hP : ∀ W, Below w.heap.size w W → Calls Try.prog 74 #[.slice a n cap] W fun e w' => e = .returned (.pointer (some ⟨W.heap.size, 0, none⟩)) ∧ Rd w' W.heap.size 88 r0 false ∧ Below W.heap.size W w')
    (h1 : TagAt r0 r1 false s1 tg) (h2 : CountedAt 1 r1 r2 s1 s2 K) (h3 : CountedAt 2 r2 r3 s2 s3 V)
    (hd : PDoneAt r3 s3 true) (ho : ∀ W, Calls Try.prog 38 #[.agg #[.string K, .string V, .bool ((tg : Int) == 2)]] W fun e w' => e = .returned (.bool true) ∧ Below W.heap.size W w') (ht : ∀ W, Calls Try.prog 70 #[.agg #[.string K, .string V, .bool ((tg : Int) == 2)]] W fun e w' => e = .returned (.int .u8 (tg2 : Int)) ∧ Below W.heap.size W w') (hne : ((tg : Int) != (tg2 : Int)) = false) :
    Calls Try.prog 42 #[.slice a n cap] w fun e w' => e = .returned (.tuple #[.agg #[.string K, .string V, .bool ((tg : Int) == 2)], .bool true]) ∧ Below w.heap.size w w' := by
  obtain ⟨W, hW⟩ : ∃ W, W = w.alloc (.cells #[.string ⟨#[]⟩, .string ⟨#[]⟩, .bool false] 34) := ⟨_, rfl⟩
  have HBW : Hid (Below w.heap.size w W) := by rw [hW]; exact below_new _ _
  have HR : Hid (Row W w.heap.size [.string ⟨#[]⟩, .string ⟨#[]⟩, .bool false] 34) := by rw [hW]; exact Row.new w [_, _, _] _
  have hn1 : ¬ (324 : Int) < (n : Int) := by omega
  have M1 : Hid True := trivial
  go_enter Try.func42, Try.ntmps42
  go_wp2_with fail
  rw [← hW]
  clear hW
  go_wp2_with (first
    | (go_at_call 74; refine (hP _ HBW.out).mono ?_; rintro e w2 ⟨rfl, hr, hb⟩; have P0 : Hid (PJ w w2 W.heap.size [.string ⟨#[]⟩, .string ⟨#[]⟩, .bool false] 34 88 r0 false) := PJ.start HR.out HBW.out hr hb; clear hr hb)
    | (go_at_call 75; refine (h1 _ _ P0.out.rd).mono ?_; rintro e w3 ⟨rfl, p⟩; have P1 : Hid (PJ w w3 W.heap.size [.string ⟨#[]⟩, .string ⟨#[]⟩, .bool false] 34 88 r1 s1) := P0.out.step p; clear p)
    | (go_at_call 76; clear M1; refine (h2 _ _ P1.out.rd).mono ?_; rintro e w4 ⟨rfl, p⟩; have P2 : Hid (PJ w w4 W.heap.size [.string ⟨#[]⟩, .string ⟨#[]⟩, .bool false] 34 88 r2 s2) := P1.out.step p; clear p)
    | (go_at_call 76; refine (h3 _ _ P2.out.rd).mono ?_; rintro e w5 ⟨rfl, p⟩; have P3 : Hid (PJ w w5 W.heap.size [.string ⟨#[]⟩, .string ⟨#[]⟩, .bool false] 34 88 r3 s3) := P2.out.step p; clear p; have P7 : Hid (PJ w (w5.alloc (.cells #[.string K, .string V, .bool ((tg : Int) == 2)] 34)) W.heap.size [.string ⟨#[]⟩, .string ⟨#[]⟩, .bool false] 34 88 r3 s3) := P3.out.later (below_new _ _); have R7 : Hid (Row (w5.alloc (.cells #[.string K, .string V, .bool ((tg : Int) == 2)] 34)) w5.heap.size [.string K, .string V, .bool ((tg : Int) == 2)] 34) := Row.new w5 [.string K, .string V, .bool ((tg : Int) == 2)] 34; obtain ⟨m0, m1, m2, g0, g1, g2⟩ := P7.out.r2.seen3; obtain ⟨y0, y1, y2, _, _, _⟩ := P3.out.r2.seen3)
    | (go_at_call 53; refine (hd _ _ P7.out.rd).mono ?_; rintro e w9 ⟨rfl, rfl⟩)
    | (go_at_call 38; clear m0 m1 m2 g0 g1 g2 y0 y1 y2; refine (ho _).mono ?_; rintro e w9 ⟨rfl, hb⟩; have P9 : Hid (PJ w w9 W.heap.size [.string ⟨#[]⟩, .string ⟨#[]⟩, .bool false] 34 88 r3 s3) := P7.out.later hb; have R9 : Hid (Row w9 w5.heap.size [.string K, .string V, .bool ((tg : Int) == 2)] 34) := R7.out.later hb; obtain ⟨m0, m1, m2, g0, g1, g2⟩ := P9.out.r2.seen3; obtain ⟨n0, n1, n2, _, _, _⟩ := R9.out.seen3; clear hb)
    | (go_at_call 70; clear m0 m1 m2 g0 g1 g2 n0 n1 n2; refine (ht _).mono ?_; rintro e w10 ⟨rfl, hb⟩; have P10 : Hid (PJ w w10 W.heap.size [.string ⟨#[]⟩, .string ⟨#[]⟩, .bool false] 34 88 r3 s3) := P9.out.later hb; have R10 : Hid (Row w10 w5.heap.size [.string K, .string V, .bool ((tg : Int) == 2)] 34) := R9.out.later hb; obtain ⟨m0, m1, m2, g0, g1, g2⟩ := P10.out.r2.seen3; obtain ⟨n0, n1, n2, _, _, _⟩ := R10.out.seen3; clear hb))
  (try simp only [Exit.inBlock, Exit.then])
  refine bodyPost_ret (v := .tuple #[.agg #[.string K, .string V, .bool ((tg : Int) == 2)], .bool true]) ?_ rfl ⟨rfl, below_set3 P10.out.bel (by omega) _ _ _⟩
  rw [results_cell_tmp rfl]
  go_simp

end Go.Proofs.Ytefpcdpclpignaa
