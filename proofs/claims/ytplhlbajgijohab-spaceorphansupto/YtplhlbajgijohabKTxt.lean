/-
  Texts as lists of bytes, and what the conversions between texts and bytes make of them.
-/
import Derived.Test.YtplhlbajgijohabPut
import Derived.Lib.ConvBytes
namespace Go.Proofs.Ytplhlbajgijohab
open Go.RowKit M

/-- The text of these bytes. -/
def bs (l : List UInt8) : ByteArray := ⟨l.toArray⟩
theorem bs_data (l : List UInt8) : (bs l).data.toList = l := rfl
theorem bs_size (l : List UInt8) : (bs l).size = l.length := rfl
theorem bs_toList (l : List UInt8) : (bs l).toList = l := by rw [ByteArray.toList_eq]; rfl
theorem bs_of (s : ByteArray) : bs s.data.toList = s := by cases s; rfl
theorem bs_inj {a b : List UInt8} : bs a = bs b ↔ a = b := by
  constructor
  · intro h; have := congrArg (fun x => x.data.toList) h; simpa [bs] using this
  · rintro rfl; rfl
theorem bs_app (a b : List UInt8) : bs a ++ bs b = bs (a ++ b) := by
  refine ByteArray.ext ?_
  rw [ByteArray.data_append]
  simp [bs]
theorem bs_empty : (bs [] : ByteArray) = ⟨#[]⟩ := rfl
theorem bs_get {l : List UInt8} {i : Nat} (h : i < (bs l).size) : ∃ hl : i < l.length, (bs l)[i]'h = l[i]'hl := ⟨by rw [← bs_size]; exact h, by simp [bs]; rfl⟩
theorem bs_beq (a b : List UInt8) : ((bs a).toList == (bs b).toList) = decide (a = b) := by
  rw [bs_toList, bs_toList, Bool.eq_iff_iff]; simp

/-- The numbers of bytes, and back. -/
def nats (l : List UInt8) : List Nat := l.map UInt8.toNat
def u8s (l : List Nat) : List UInt8 := l.map UInt8.ofNat
theorem nats_length (l : List UInt8) : (nats l).length = l.length := by simp [nats]
theorem u8s_length (l : List Nat) : (u8s l).length = l.length := by simp [u8s]
theorem nats_lt (l : List UInt8) : ∀ x ∈ nats l, x < 256 := by
  intro x hx
  simp only [nats, List.mem_map] at hx
  obtain ⟨b, _, rfl⟩ := hx
  exact b.toNat_lt
theorem u8s_nats (l : List UInt8) : u8s (nats l) = l := by
  unfold u8s nats
  rw [List.map_map]
  have : (UInt8.ofNat ∘ UInt8.toNat) = id := by funext x; simp
  rw [this, List.map_id]
theorem nats_u8s {l : List Nat} (h : ∀ x ∈ l, x < 256) : nats (u8s l) = l := by
  unfold u8s nats
  rw [List.map_map]
  conv => rhs; rw [← List.map_id l]
  refine List.map_congr_left fun x hx => ?_
  simp [Nat.mod_eq_of_lt (h x hx)]
theorem u8s_append (a b : List Nat) : u8s (a ++ b) = u8s a ++ u8s b := by simp [u8s]
theorem nats_append (a b : List UInt8) : nats (a ++ b) = nats a ++ nats b := by simp [nats]

theorem conv_row {w : World} {a : Option Addr} {l : List Nat} (cap : Nat) (hr : BRow w a l) :
    (convert 53 9 (.slice a l.length cap)).run Try.prog w = .ok (.string (bs (u8s l))) w := by
  rcases hr with rfl | ⟨b, off, rfl, hc⟩
  · rw [run_convert_bytes_string w 53 9 5 a _ cap Try.underlying53 Try.underlying5 Try.underlying9]
    cases a with
    | none => simp [Conv.bytesToString, u8s]; rfl
    | some a => 
      rw [List.length_nil, run_bytesToString w a 0 cap [] (by simp [loadCells, loadCellsFrom])]
      rfl
  · have h := run_convert_bytes_arg w 53 5 Try.underlying53 Try.underlying5 b off l.length cap (l.map fun x : Nat => (x : Int)) (by simp) (fun i hi => by rw [hc i hi]; simp [List.getD, hi]) 9 Try.underlying9
    rw [h]
    have e : strOfNums (l.map fun x : Nat => (x : Int)) = bs (u8s l) := by
      rw [← bs_of (strOfNums _), strOfNums_data, List.map_map]
      rfl
    rw [e]

/-- A text's bytes lie in the new row. -/
theorem to_bytes (s : List UInt8) (w : World) :
    (convert 9 53 (.string (bs s))).run Try.prog w = .ok (.slice (some ⟨w.heap.size, 0, none⟩) s.length (grownCap w s.length 0 5)) (Lib.bytesWorld w 5 (bs s)) :=
  Lib.run_convert_string_bytes w 9 53 5 (bs s) Try.underlying9 Try.underlying53 Try.underlying5
theorem bytes_row (s : List UInt8) (w : World) : BRow (Lib.bytesWorld w 5 (bs s)) (some ⟨w.heap.size, 0, none⟩) (nats s) := by
  refine .inr ⟨_, _, rfl, fun i hi => ?_⟩
  have hi' : i < s.length := by rw [nats_length] at hi; exact hi
  rw [Nat.zero_add, Lib.bytesWorld_cell w 5 (bs s) i hi', bs_data]
  simp [nats, List.getD, hi']
theorem bytes_below (s : List UInt8) (w : World) : Below w.heap.size w (Lib.bytesWorld w 5 (bs s)) := by
  exact ⟨rfl, rfl, rfl, by rw [Lib.bytesWorld_size]; omega, fun k hk => Lib.bytesWorld_at_old w 5 (bs s) k hk⟩
theorem below_new (w : World) (o : Obj) : Below w.heap.size w (w.alloc o) := (Below.refl _ w).alloc (Nat.le_refl _) _
theorem below_drawn (w : World) (n : Nat) : Below w.heap.size w (w.drewN n) := by
  induction n with
  | zero => exact Below.refl _ _
  | succ n ih => exact (ih.drew)
theorem mixedT : Try.prog.follows Departure.mixedOrders = true := by kernel_rfl
end Go.Proofs.Ytplhlbajgijohab
