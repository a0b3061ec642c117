/-
  The readers of values and of payloads.
-/
import Derived.Test.YtefpcdpclpignaaKAlive
namespace Go.Proofs.Ytefpcdpclpignaa
open Go.RowKit M

theorem readValue_any (l : List UInt8) (w : World) :
    Calls Try.prog 64 #[.string (bs l)] w fun e w' => e = .returned (.pointer (some ⟨w.heap.size, 0, none⟩)) ∧ Rd w' w.heap.size 80 l false ∧ Below w.heap.size w w' := by
  obtain ⟨S, hS⟩ : ∃ S, S = bs l := ⟨_, rfl⟩
  have HR : Hid (∀ W : World, Rd (W.alloc (.cells #[.string S, .bool false] 80)) W.heap.size 80 l false) := by rw [hS]; exact fun W => Row.new W [.string (bs l), .bool false] _
  rw [← hS]
  clear hS
  go_enter Try.func64, Try.ntmps64
  go_wp2
  go_ret
  exact ⟨rfl, HR.out _, below_new _ _⟩
theorem readPayload_any (a : Option Addr) (n cap : Nat) (l : List Nat) (hn : n = l.length) (w : World) (hr : BRow w a l) :
    Calls Try.prog 74 #[.slice a n cap] w fun e w' => e = .returned (.pointer (some ⟨w.heap.size, 0, none⟩)) ∧ Rd w' w.heap.size 88 (u8s l) false ∧ Below w.heap.size w w' := by
  subst hn
  have hcv := conv_row cap hr
  obtain ⟨S, hS⟩ : ∃ S, S = bs (u8s l) := ⟨_, rfl⟩
  have HR : Hid (∀ W : World, Rd (W.alloc (.cells #[.string S, .bool false] 88)) W.heap.size 88 (u8s l) false) := by rw [hS]; exact fun W => Row.new W [.string (bs (u8s l)), .bool false] _
  rw [← hS] at hcv
  clear hS hr
  go_enter Try.func74, Try.ntmps74
  go_wp2
  go_ret
  exact ⟨rfl, HR.out _, below_new _ _⟩

set_option maxRecDepth 10000 in
theorem field_any (B : Nat) (t : TypeId) (m : Nat) (hm : m ≤ 4) (r : List UInt8) (sh : Bool) (w : World) (hr : r.length ≤ maxLen) (h : Rd w B t r sh) :
    Calls Try.prog 65 #[.pointer (some ⟨B, 0, none⟩), .int .i64 (m : Int)] w fun e w' => e = .returned (.int .i64 (numV m r : Nat)) ∧ RPost w B t (txR m r) (txS m r sh) w' := by
  have ht := number_any B t m r sh w hr h
  have hv := numV_small m r hm
  obtain ⟨v, e⟩ : ∃ v, v = numV m r := ⟨_, rfl⟩
  rw [← e] at ht hv ⊢
  clear e h
  go_enter Try.func65, Try.ntmps65
  go_wp2_with (go_at_call 77; refine ht.mono ?_; rintro e w1 ⟨rfl, p1⟩)
  go_ret
  exact ⟨rfl, p1⟩
theorem numV_byte (r : List UInt8) : numV 1 r < 256 := by
  unfold numV
  have h1 := getL_lt ((nats (txV 1 r)).take 8) (fun x hx => nats_lt _ x (List.mem_of_mem_take hx))
  have h3 := txV_len 1 r
  have h2 : (256 : Nat) ^ ((nats (txV 1 r)).take 8).length ≤ 256 ^ 1 := Nat.pow_le_pow_right (by decide) (by rw [List.length_take, nats_length]; omega)
  omega
set_option maxRecDepth 10000 in
theorem tag_any (B : Nat) (t : TypeId) (r : List UInt8) (sh : Bool) (w : World) (hr : r.length ≤ maxLen) (h : Rd w B t r sh) :
    Calls Try.prog 75 #[.pointer (some ⟨B, 0, none⟩)] w fun e w' => e = .returned (.int .u8 (numV 1 r : Nat)) ∧ RPost w B t (txR 1 r) (txS 1 r sh) w' := by
  have ht : Calls Try.prog 77 #[.pointer (some ⟨B, 0, none⟩), .int .i64 1] w fun e w' => e = .returned (.int .u64 (numV 1 r : Nat)) ∧ RPost w B t (txR 1 r) (txS 1 r sh) w' := number_any B t 1 r sh w hr h
  have hv := numV_byte r
  obtain ⟨v, e⟩ : ∃ v, v = numV 1 r := ⟨_, rfl⟩
  rw [← e] at ht hv ⊢
  clear e h
  go_enter Try.func75, Try.ntmps75
  go_wp2_with (go_at_call 77; refine ht.mono ?_; rintro e w1 ⟨rfl, p1⟩)
  go_ret
  exact ⟨rfl, p1⟩

/-- What counted answers, and the state behind it. -/
def coV (m : Nat) (r : List UInt8) : List UInt8 := txV (numV m r) (txR m r)
def coR (m : Nat) (r : List UInt8) : List UInt8 := txR (numV m r) (txR m r)
def coS (m : Nat) (r : List UInt8) (sh : Bool) : Bool := txS (numV m r) (txR m r) (txS m r sh)

set_option maxRecDepth 100000 in
set_option maxHeartbeats 1000000 in
theorem counted_any (B : Nat) (t : TypeId) (m : Nat) (hm : m ≤ 4) (r : List UInt8) (sh : Bool) (w : World) (hr : r.length ≤ maxLen) (h : Rd w B t r sh) :
    Calls Try.prog 76 #[.pointer (some ⟨B, 0, none⟩), .int .i64 (m : Int)] w fun e w' => e = .returned (.string (bs (coV m r))) ∧ RPost w B t (coR m r) (coS m r sh) w' := by
  have ht := fun W h => number_any B t m r sh W hr h
  have hr2 : (txR m r).length ≤ maxLen := Nat.le_trans (txR_len m r) hr
  have hx := fun W h => text_any B t (numV m r) (txR m r) (txS m r sh) W hr2 h
  have hv := numV_small m r hm
  unfold coV coR coS
  have HD : Hid (Rd w.drew B t r sh) := Row.drew h
  have HC : Hid (∀ W r sh, RPost w.drew B t r sh W → RPost w B t r sh W) := fun W r sh p => ⟨p.rd, p.kept.os, p.kept.tape, p.kept.output, p.kept.size, p.kept.block⟩
  obtain ⟨v, e⟩ : ∃ v, v = numV m r := ⟨_, rfl⟩
  obtain ⟨S, eS⟩ : ∃ S, S = bs (txV (numV m r) (txR m r)) := ⟨_, rfl⟩
  rw [← eS] at hx ⊢
  rw [← e] at ht hv hx ⊢
  clear e eS h
  have hw : IntKind.i64.wrap (v : Int) = (v : Int) := by rw [IntKind.wrap_i64]; omega
  go_enter Try.func76, Try.ntmps76
  go_wp2_with fail
  go_region_held3 (fun _ => True) (first | trivial)
    (first
    | (go_at_call 77; refine (ht _ HD.out).mono ?_; rintro e w1 ⟨rfl, p1⟩; have P1 : Hid (RPost _ _ _ _ _ _) := p1; clear p1)
    | (go_at_call 79; refine (hx _ P1.out.rd).mono ?_; rintro e w2 ⟨rfl, p2⟩; have P2 : Hid (RPost _ _ _ _ _ _) := HC.out _ _ _ (P1.out.trans p2); clear p2))
  all_goals go_wp2
  all_goals go_ret
  all_goals exact ⟨rfl, P2.out⟩
end Go.Proofs.Ytefpcdpclpignaa
