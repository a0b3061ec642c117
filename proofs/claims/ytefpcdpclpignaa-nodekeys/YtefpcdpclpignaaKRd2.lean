/-
  The readers of keys, of values and of payloads.
-/
import Derived.Test.YtefpcdpclpignaaKRead
import Derived.BigQuiet
import Derived.Deep.RegionHeld3
namespace Go.Proofs.Ytefpcdpclpignaa
open Go.RowKit M

theorem readKey_any (l : List UInt8) (w : World) :
    Calls Try.prog 46 #[.string (bs l)] w fun e w' => e = .returned (.pointer (some ⟨w.heap.size, 0, none⟩)) ∧ Rd w' w.heap.size 70 l false ∧ Below w.heap.size w w' := by
  obtain ⟨S, hS⟩ : ∃ S, S = bs l := ⟨_, rfl⟩
  have HR : Hid (∀ W : World, Rd (W.alloc (.cells #[.string S, .bool false] 70)) W.heap.size 70 l false) := by rw [hS]; exact fun W => Row.new W [.string (bs l), .bool false] _
  rw [← hS]
  clear hS
  go_enter Try.func46, Try.ntmps46
  go_wp2
  go_ret
  exact ⟨rfl, HR.out _, below_new _ _⟩

theorem numV_small (n : Nat) (r : List UInt8) (h : n ≤ 4) : numV n r < 4294967296 := by
  unfold numV
  have h1 := getL_lt ((nats (txV n r)).take 8) (fun x hx => nats_lt _ x (List.mem_of_mem_take hx))
  have h3 := txV_len n r
  have h2 : (256 : Nat) ^ ((nats (txV n r)).take 8).length ≤ 256 ^ 4 := Nat.pow_le_pow_right (by decide) (by rw [List.length_take, nats_length]; omega)
  omega

/-- The number of two bytes, the higher one first. -/
def num2 (a b : UInt8) : Nat := a.toNat * 256 + b.toNat
/-- The number of a key's two bytes. -/
def hiV (r : List UInt8) : Nat := match r with
  | a :: b :: _ => num2 a b
  | _ => 0
theorem hiV_lt (r : List UInt8) : hiV r < 65536 := by
  unfold hiV
  split
  · rename_i a b _
    have := a.toNat_lt
    have := b.toNat_lt
    unfold num2
    omega
  · omega

theorem or_byte (a b : Nat) (ha : a < 65536) (hb : b < 256) : bits BinOp.or IntKind.i64 ((a : Int) * 256) (b : Int) = ((a * 256 + b : Nat) : Int) := by
  have e : ((a : Int) * 256) = ((a * 256 : Nat) : Int) := by simp
  rw [e]
  show IntKind.i64.wrap ((BitVec.ofInt 64 ((a * 256 : Nat) : Int) ||| BitVec.ofInt 64 (b : Int)).toNat : Int) = _
  rw [BitVec.toNat_or, ofInt_u64 _ (by omega), ofInt_u64 b (by omega), nat_join 8 (a * 256) b (by omega) (by omega), IntKind.wrap_i64]
  omega

set_option maxRecDepth 10000 in
set_option maxHeartbeats 1000000 in
theorem khigh_short (B : Nat) (t : TypeId) (r : List UInt8) (sh : Bool) (w : World) (hr : r.length < 2)
    (ht : Calls Try.prog 79 #[.pointer (some ⟨B, 0, none⟩), .int .i64 2] w fun e w' => e = .returned (.string (bs (txV 2 r))) ∧ RPost w B t (txR 2 r) (txS 2 r sh) w') :
    Calls Try.prog 47 #[.pointer (some ⟨B, 0, none⟩)] w fun e w' => e = .returned (.int .i64 (hiV r : Nat)) ∧ RPost w B t (txR 2 r) (txS 2 r sh) w' := by
  have e1 : txV 2 r = [] := by unfold txV; rw [if_pos hr]
  have e2 : hiV r = 0 := by rcases r with _ | ⟨a, _ | ⟨b, rest⟩⟩ <;> first | rfl | (simp at hr; omega)
  have HB : Hid (∀ W, Below W.heap.size W (Lib.bytesWorld W 5 (bs []))) := fun W => bytes_below _ W
  have hcv := fun W => to_bytes [] W
  rw [e1] at ht
  rw [e2]
  obtain ⟨S, hS⟩ : ∃ S, S = bs [] := ⟨_, rfl⟩
  rw [← hS] at ht HB hcv
  simp only [List.length_nil] at hcv
  clear hS e1 e2
  go_enter Try.func47, Try.ntmps47
  go_wp2_with (go_at_call 79; refine ht.mono ?_; rintro e w1 ⟨rfl, p1⟩)
  refine wp_loop_rounds 1 ?_
  rw [rounds_succ]
  go_wp2
  go_ret
  exact ⟨rfl, p1.later (HB.out _)⟩

set_option maxRecDepth 10000 in
set_option maxHeartbeats 1000000 in
theorem khigh_any (B : Nat) (t : TypeId) (r : List UInt8) (sh : Bool) (w : World) (hr : r.length ≤ maxLen) (h : Rd w B t r sh) :
    Calls Try.prog 47 #[.pointer (some ⟨B, 0, none⟩)] w fun e w' => e = .returned (.int .i64 (hiV r : Nat)) ∧ RPost w B t (txR 2 r) (txS 2 r sh) w' := by
  have ht : Calls Try.prog 79 #[.pointer (some ⟨B, 0, none⟩), .int .i64 2] w fun e w' => e = .returned (.string (bs (txV 2 r))) ∧ RPost w B t (txR 2 r) (txS 2 r sh) w' := text_any B t 2 r sh w hr h
  have HB : Hid (∀ W, Below W.heap.size W (Lib.bytesWorld W 5 (bs (txV 2 r)))) := fun W => bytes_below _ W
  have hcv := fun W => to_bytes (txV 2 r) W
  have hrow := fun W => bytes_row (txV 2 r) W
  clear h
  rcases r with _ | ⟨a, _ | ⟨b, rest⟩⟩
  · exact khigh_short B t [] sh w (by decide) ht
  · exact khigh_short B t [a] sh w (by simp) ht
  ·
    have e1 : txV 2 (a :: b :: rest) = [a, b] := by simp [txV]
    rw [e1] at ht HB hcv hrow
    have e2 : hiV (a :: b :: rest) = a.toNat * 256 + b.toNat := rfl
    rw [e2]
    have hc0 : ∀ W, (Lib.bytesWorld W 5 (bs [a, b])).cell? ⟨W.heap.size, 0, none⟩ = some (.int .u8 (a.toNat : Int)) := fun W => Lib.bytesWorld_cell W 5 (bs [a, b]) 0 (by rw [bs_size]; simp)
    have hc1 : ∀ W, (Lib.bytesWorld W 5 (bs [a, b])).cell? ⟨W.heap.size, 1, none⟩ = some (.int .u8 (b.toNat : Int)) := fun W => Lib.bytesWorld_cell W 5 (bs [a, b]) 1 (by rw [bs_size]; simp)
    have ha := a.toNat_lt
    have hb := b.toNat_lt
    obtain ⟨S, hS⟩ : ∃ S, S = bs [a, b] := ⟨_, rfl⟩
    rw [← hS] at ht HB hcv hc0 hc1
    obtain ⟨x, hx⟩ : ∃ x, x = a.toNat := ⟨_, rfl⟩
    obtain ⟨y, hy⟩ : ∃ y, y = b.toNat := ⟨_, rfl⟩
    rw [← hx] at hc0 ha ⊢
    rw [← hy] at hc1 hb ⊢
    have ho1 : bits BinOp.or IntKind.i64 0 (x : Int) = (x : Int) := by have := or_byte 0 x (by omega) ha; simpa using this
    have ho2 := or_byte x y (by omega) hb
    simp only [List.length_cons, List.length_nil, Nat.zero_add, Nat.reduceAdd] at hcv
    clear hS hx hy e1 e2 hrow
    go_enter Try.func47, Try.ntmps47
    go_wp2_with (go_at_call 79; refine ht.mono ?_; rintro e w1 ⟨rfl, p1⟩)
    have c0 := hc0 w1
    have c1 := hc1 w1
    obtain ⟨W, hW⟩ : ∃ W, W = Lib.bytesWorld w1 5 S := ⟨_, rfl⟩
    have HB1 : Hid (Below w1.heap.size w1 W) := by rw [hW]; exact HB.out w1
    rw [← hW] at c0 c1 ⊢
    clear hW hc0 hc1 hcv ht
    refine wp_loop_rounds 3 ?_
    rw [rounds_succ]
    go_wp2
    rw [rounds_succ]
    go_wp2
    rw [rounds_succ]
    go_wp2
    go_ret
    exact ⟨rfl, p1.later HB1.out⟩

set_option maxRecDepth 10000 in
theorem kkind_any (B : Nat) (t : TypeId) (r : List UInt8) (sh : Bool) (w : World) (hr : r.length ≤ maxLen) (h : Rd w B t r sh) :
    Calls Try.prog 48 #[.pointer (some ⟨B, 0, none⟩)] w fun e w' => e = .returned (.int .i64 (numV 1 r : Nat)) ∧ RPost w B t (txR 1 r) (txS 1 r sh) w' := by
  have ht : Calls Try.prog 77 #[.pointer (some ⟨B, 0, none⟩), .int .i64 1] w fun e w' => e = .returned (.int .u64 (numV 1 r : Nat)) ∧ RPost w B t (txR 1 r) (txS 1 r sh) w' := number_any B t 1 r sh w hr h
  have hv := numV_small 1 r (by decide)
  obtain ⟨v, e⟩ : ∃ v, v = numV 1 r := ⟨_, rfl⟩
  rw [← e] at ht hv ⊢
  clear e h
  go_enter Try.func48, Try.ntmps48
  go_wp2_with (go_at_call 77; refine ht.mono ?_; rintro e w1 ⟨rfl, p1⟩)
  go_ret
  exact ⟨rfl, p1⟩
end Go.Proofs.Ytefpcdpclpignaa
