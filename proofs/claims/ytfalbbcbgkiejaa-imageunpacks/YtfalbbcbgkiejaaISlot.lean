/-
  A slot that is read.
-/
import Derived.Test.YtfalbbcbgkiejaaIRead
namespace Go.Proofs.Ytfalbbcbgkiejaa
open Go.RowKit M
set_option maxRecDepth 10000

/-- What is left, and whether something was lacking, behind a slot's parts; the slot. -/
def slK (r : List UInt8) : Nat := numV 1 r
def sl1 (r : List UInt8) : List UInt8 := txR 1 r
def sl2 (r : List UInt8) : List UInt8 := txR (slK r) (sl1 r)
def sl3 (r : List UInt8) : List UInt8 := txR 2 (sl2 r)
def sl4 (r : List UInt8) : List UInt8 := txR 3 (sl3 r)
def sl5 (r : List UInt8) : List UInt8 := txR 2 (sl4 r)
def slS (r : List UInt8) (sh : Bool) : Bool := txS 2 (sl4 r) (txS 3 (sl3 r) (txS 2 (sl2 r) (txS (slK r) (sl1 r) (txS 1 r sh))))
def slV (r : List UInt8) : St := ⟨bs (txV (slK r) (sl1 r)), (numV 2 (sl2 r) : Nat), (numV 3 (sl3 r) : Nat), (numV 2 (sl4 r) : Nat)⟩
theorem RPost.kept2 {w w1 : World} {B : Nat} {t : TypeId} {r : List UInt8} {sh : Bool} (h : RPost w B t r sh w1) {C : Nat} {cs : List Value} {u : TypeId} (hC : Row w C cs u) (hne : C ≠ B) : Row w1 C cs u := hC.kept h.kept (fun e => hne e)
theorem RPost.set {w w1 : World} {B : Nat} {t : TypeId} {r : List UInt8} {sh : Bool} (h : RPost w B t r sh w1) {p : Addr} (hp : w.heap.size ≤ p.block) (hB : B < w.heap.size) (v : Value) : RPost w B t r sh (w1.setCell p v) :=
  ⟨Row.other p v h.rd (by omega), h.kept.setNew hp v⟩
set_option maxHeartbeats 4000000 in
theorem slot_any (B : Nat) (t : TypeId) (r : List UInt8) (sh : Bool) (w : World) (hr : r.length ≤ maxLen) (h : Rd w B t r sh) :
    Calls Try.prog 41 #[.pointer (some ⟨B, 0, none⟩)] w fun e w' => e = .returned (.agg #[.string (slV r).key, .int .i64 (slV r).leb, .int .i64 (slV r).pos, .int .i64 (slV r).size]) ∧ RPost w B t (sl5 r) (slS r sh) w' := by
  have hB := Row.lt h
  have l1 : (sl1 r).length ≤ maxLen := Nat.le_trans (txR_len _ _) hr
  have l2 : (sl2 r).length ≤ maxLen := Nat.le_trans (txR_len _ _) l1
  have l3 : (sl3 r).length ≤ maxLen := Nat.le_trans (txR_len _ _) l2
  have l4 : (sl4 r).length ≤ maxLen := Nat.le_trans (txR_len _ _) l3
  have k1 : ∀ W sh, Rd W B t r sh → Calls Try.prog 40 #[.pointer (some ⟨B, 0, none⟩), .int .i64 1] W fun e w' => e = .returned (.int .i64 (slK r : Nat)) ∧ RPost W B t (sl1 r) (txS 1 r sh) w' := fun W sh hW => number_any B t 1 r sh W hr (by decide) hW
  have k2 : ∀ W sh, Rd W B t (sl1 r) sh → Calls Try.prog 53 #[.pointer (some ⟨B, 0, none⟩), .int .i64 (slK r : Nat)] W fun e w' => e = .returned (.string (slV r).key) ∧ RPost W B t (sl2 r) (txS (slK r) (sl1 r) sh) w' := fun W sh hW => text_any B t (slK r) (sl1 r) sh W l1 hW
  have k3 : ∀ W sh, Rd W B t (sl2 r) sh → Calls Try.prog 40 #[.pointer (some ⟨B, 0, none⟩), .int .i64 2] W fun e w' => e = .returned (.int .i64 (slV r).leb) ∧ RPost W B t (sl3 r) (txS 2 (sl2 r) sh) w' := fun W sh hW => number_any B t 2 (sl2 r) sh W l2 (by decide) hW
  have k4 : ∀ W sh, Rd W B t (sl3 r) sh → Calls Try.prog 40 #[.pointer (some ⟨B, 0, none⟩), .int .i64 3] W fun e w' => e = .returned (.int .i64 (slV r).pos) ∧ RPost W B t (sl4 r) (txS 3 (sl3 r) sh) w' := fun W sh hW => number_any B t 3 (sl3 r) sh W l3 (by decide) hW
  have k5 : ∀ W sh, Rd W B t (sl4 r) sh → Calls Try.prog 40 #[.pointer (some ⟨B, 0, none⟩), .int .i64 2] W fun e w' => e = .returned (.int .i64 (slV r).size) ∧ RPost W B t (sl5 r) (txS 2 (sl4 r) sh) w' := fun W sh hW => number_any B t 2 (sl4 r) sh W l4 (by decide) hW
  obtain ⟨s1, hs1⟩ : ∃ s, s = txS 1 r sh := ⟨_, rfl⟩
  obtain ⟨s2, hs2⟩ : ∃ s, s = txS (slK r) (sl1 r) s1 := ⟨_, rfl⟩
  obtain ⟨s3, hs3⟩ : ∃ s, s = txS 2 (sl2 r) s2 := ⟨_, rfl⟩
  obtain ⟨s4, hs4⟩ : ∃ s, s = txS 3 (sl3 r) s3 := ⟨_, rfl⟩
  obtain ⟨s5, hs5⟩ : ∃ s, s = txS 2 (sl4 r) s4 := ⟨_, rfl⟩
  have HE : Hid (s5 = slS r sh) := by show _ = _; rw [hs5, hs4, hs3, hs2, hs1]; rfl
  have j1 := fun W hW => k1 W sh hW
  have j2 := fun W hW => k2 W s1 hW
  have j3 := fun W hW => k3 W s2 hW
  have j4 := fun W hW => k4 W s3 hW
  have j5 := fun W hW => k5 W s4 hW
  rw [← hs1] at j1
  rw [← hs2] at j2
  rw [← hs3] at j3
  rw [← hs4] at j4
  rw [← hs5] at j5
  obtain ⟨V, hV⟩ : ∃ V, V = slV r := ⟨_, rfl⟩
  obtain ⟨K1, hK1⟩ : ∃ V, V = slK r := ⟨_, rfl⟩
  rw [← hV] at j2 j3 j4 j5 ⊢
  rw [← hK1] at j1 j2
  have G0 : Hid (RPost w B t r sh (w.alloc (.cells #[.string ⟨#[]⟩, .int .i64 0, .int .i64 0, .int .i64 0] 69))) := ⟨h.alloc _, Kept.of_below (below_new _ _)⟩
  have HX0 : Hid (Row (w.alloc (.cells #[.string ⟨#[]⟩, .int .i64 0, .int .i64 0, .int .i64 0] 69)) w.heap.size [.string ⟨#[]⟩, .int .i64 0, .int .i64 0, .int .i64 0] 69) := Row.new w _ _
  have hne : w.heap.size ≠ B := by omega
  clear hs1 hs2 hs3 hs4 hs5 hV hK1 k1 k2 k3 k4 k5 l1 l2 l3 l4 h hr
  have M1 : Hid True := trivial
  have M2 : Hid True := trivial
  have M3 : Hid True := trivial
  go_enter Try.func41, Try.ntmps41
  go_wp2_with (first
    | (clear M1; go_at_call 40; refine (j1 _ G0.out.rd).mono ?_; rintro e w1 ⟨rfl, p⟩; have HX1 : Hid (Row w1 w.heap.size _ _) := p.kept2 HX0.out hne; have G1 : Hid (RPost w B t _ s1 w1) := G0.out.trans p; clear p)
    | (go_at_call 53; refine (j2 _ G1.out.rd).mono ?_; rintro e w2 ⟨rfl, p⟩; have HX2 : Hid (Row w2 w.heap.size _ _) := p.kept2 HX1.out hne; have G2 : Hid (RPost w B t _ s2 w2) := G1.out.trans p; clear p)
    | (clear M2; go_at_call 40; refine (j3 _ G2.out.rd).mono ?_; rintro e w3 ⟨rfl, p⟩; have HX3 : Hid (Row w3 w.heap.size _ _) := p.kept2 HX2.out hne; have G3 : Hid (RPost w B t _ s3 w3) := G2.out.trans p; clear p)
    | (clear M3; go_at_call 40; refine (j4 _ G3.out.rd).mono ?_; rintro e w4 ⟨rfl, p⟩; have HX4 : Hid (Row w4 w.heap.size _ _) := p.kept2 HX3.out hne; have G4 : Hid (RPost w B t _ s4 w4) := G3.out.trans p; clear p)
    | (go_at_call 40; refine (j5 _ G4.out.rd).mono ?_; rintro e w5 ⟨rfl, p⟩; have HX5 : Hid (Row w5 w.heap.size _ _) := p.kept2 HX4.out hne; have G5 : Hid (RPost w B t (sl5 r) s5 w5) := G4.out.trans p; have m0 : w5.cell? ⟨w.heap.size, 0, none⟩ = _ := HX5.out.cell (i := 0) rfl; have m1 : w5.cell? ⟨w.heap.size, 1, none⟩ = _ := HX5.out.cell (i := 1) rfl; have m2 : w5.cell? ⟨w.heap.size, 2, none⟩ = _ := HX5.out.cell (i := 2) rfl; have m3 : w5.cell? ⟨w.heap.size, 3, none⟩ = _ := HX5.out.cell (i := 3) rfl; have f0 := HX5.out.frozen 0; have f1 := HX5.out.frozen 1; have f2 := HX5.out.frozen 2; have f3 := HX5.out.frozen 3; clear p))
  (try simp only [Exit.inBlock, Exit.then])
  refine bodyPost_ret (v := .agg #[.string V.key, .int .i64 V.leb, .int .i64 V.pos, .int .i64 V.size]) ?_ rfl ⟨rfl, ?_⟩
  · rw [results_cell1 rfl]
    go_simp
  · rw [← HE.out]
    exact (((G5.out.set (by simp) hB _).set (by simp) hB _).set (by simp) hB _).set (by simp) hB _
end Go.Proofs.Ytfalbbcbgkiejaa
