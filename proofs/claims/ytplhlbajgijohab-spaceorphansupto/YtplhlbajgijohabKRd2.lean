/-
  The readers of keys, of values and of payloads.
-/
import Derived.Test.YtplhlbajgijohabKRead
import Derived.BigQuiet
import Derived.Deep.RegionHeld3
namespace Go.Proofs.Ytplhlbajgijohab
open Go.RowKit M

theorem numV_small (n : Nat) (r : List UInt8) (h : n ≤ 4) : numV n r < 4294967296 := by
  unfold numV
  have h1 := getL_lt ((nats (txV n r)).take 8) (fun x hx => nats_lt _ x (List.mem_of_mem_take hx))
  have h3 := txV_len n r
  have h2 : (256 : Nat) ^ ((nats (txV n r)).take 8).length ≤ 256 ^ 4 := Nat.pow_le_pow_right (by decide) (by rw [List.length_take, nats_length]; omega)
  omega

/-- The number of two bytes, the higher one first. -/
def num2 (a b : UInt8) : Nat := a.toNat * 256 + b.toNat
/-- The number of a key's two bytes. -/
def hiV (r : List UInt8) : Nat := match r with
  | a :: b :: _ => num2 a b
  | _ => 0
theorem hiV_lt (r : List UInt8) : hiV r < 65536 := by
  unfold hiV
  split
  · rename_i a b _
    have := a.toNat_lt
    have := b.toNat_lt
    unfold num2
    omega
  · omega

theorem or_byte (a b : Nat) (ha : a < 65536) (hb : b < 256) : bits BinOp.or IntKind.i64 ((a : Int) * 256) (b : Int) = ((a * 256 + b : Nat) : Int) := by
  have e : ((a : Int) * 256) = ((a * 256 : Nat) : Int) := by simp
  rw [e]
  show IntKind.i64.wrap ((BitVec.ofInt 64 ((a * 256 : Nat) : Int) ||| BitVec.ofInt 64 (b : Int)).toNat : Int) = _
  rw [BitVec.toNat_or, ofInt_u64 _ (by omega), ofInt_u64 b (by omega), nat_join 8 (a * 256) b (by omega) (by omega), IntKind.wrap_i64]
  omega

end Go.Proofs.Ytplhlbajgijohab
