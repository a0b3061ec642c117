/-
  The reader of package node: its state in memory, and what its methods do with it.
-/
import Derived.Test.YtplhlbajgijohabKMem
import Derived.Test.YtplhlbajgijohabGet
namespace Go.Proofs.Ytplhlbajgijohab
open Go.RowKit M

/-- The reader at B: what is left, and whether something was lacking. -/
def Rd (w : World) (B : Nat) (t : TypeId) (r : List UInt8) (sh : Bool) : Prop := Row w B [.string (bs r), .bool sh] t
/-- The reader's new state; all else is as it was. -/
structure RPost (w : World) (B : Nat) (t : TypeId) (r : List UInt8) (sh : Bool) (w' : World) : Prop where
  rd : Rd w' B t r sh
  kept : Kept (fun k => k = B) w w'

/-- What text answers, what is left then, and whether something was lacking then. -/
def txV (n : Nat) (r : List UInt8) : List UInt8 := if r.length < n then [] else r.take n
def txR (n : Nat) (r : List UInt8) : List UInt8 := if r.length < n then r else r.drop n
def txS (n : Nat) (r : List UInt8) (sh : Bool) : Bool := if r.length < n then true else sh

theorem bs_extract (l : List UInt8) (f k : Nat) : (bs l).extract f k = bs ((l.drop f).take (k - f)) := by
  rw [← bs_of ((bs l).extract f k), ByteArray.data_extract]
  simp [bs, List.extract_eq_take_drop]

theorem RPost.later {w w1 w2 : World} {B : Nat} {t : TypeId} {r : List UInt8} {sh : Bool} (h : RPost w B t r sh w1) (hb : Below w1.heap.size w1 w2) : RPost w B t r sh w2 :=
  ⟨Row.later h.rd hb, h.kept.later hb⟩
theorem RPost.trans {w w1 w2 : World} {B : Nat} {t u : TypeId} {r r' : List UInt8} {sh sh' : Bool} (h : RPost w B t r sh w1) (k : RPost w1 B u r' sh' w2) : RPost w B u r' sh' w2 :=
  ⟨k.rd, h.kept.trans k.kept⟩
theorem RPost.same {w : World} {B : Nat} {t : TypeId} {r : List UInt8} {sh : Bool} (h : Rd w B t r sh) : RPost w B t r sh w := ⟨h, .refl _ _⟩
theorem txR_len (n : Nat) (r : List UInt8) : (txR n r).length ≤ r.length := by
  unfold txR; split
  · exact Nat.le_refl _
  · simp
theorem txV_len (n : Nat) (r : List UInt8) : (txV n r).length ≤ n := by
  unfold txV; split
  · simp
  · simp; omega

/-- What number answers. -/
def numV (n : Nat) (r : List UInt8) : Nat := getL ((nats (txV n r)).take 8)
theorem numV_lt (n : Nat) (r : List UInt8) : numV n r < 18446744073709551616 := by
  unfold numV
  have h := getL_lt ((nats (txV n r)).take 8) (fun x hx => nats_lt _ x (List.mem_of_mem_take hx))
  have h2 : (256 : Nat) ^ ((nats (txV n r)).take 8).length ≤ 256 ^ 8 := Nat.pow_le_pow_right (by decide) (by simp; omega)
  omega
/-- Was there all, and nothing more? -/
def dn (r : List UInt8) (sh : Bool) : Bool := !sh && r.isEmpty
end Go.Proofs.Ytplhlbajgijohab
