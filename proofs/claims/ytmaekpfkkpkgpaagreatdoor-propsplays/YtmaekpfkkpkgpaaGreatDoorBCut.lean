/-
  Texts as lists of bytes: their pieces; what the library's Cut answers at an end of one byte.
-/
import Derived.Test.YtmaekpfkkpkgpaaGreatDoorBMem
import Derived.Test.YtmaekpfkkpkgpaaGreatDoorBShelf
import Derived.Lib.CutLaws
import Derived.Laws.Strings3
import Derived.BigQuiet
import Derived.Shelf.RegionOpen
namespace Go.Proofs.YtmaekpfkkpkgpaaGreatDoor
open Go.RowKit Go.Shelf

/-- What stands between the ends of pieces of a text, also that of no byte. -/
def segs (z : UInt8) : List UInt8 → List (List UInt8)
  | [] => [[]]
  | c :: l => if c = z then [] :: segs z l else match segs z l with
    | [] => [[c]]
    | h :: t => (c :: h) :: t

theorem segs_ne (z : UInt8) (l : List UInt8) : segs z l ≠ [] := by
  cases l with
  | nil => simp [segs]
  | cons c l => unfold segs; split <;> (try split) <;> simp
theorem segs_no {z : UInt8} : ∀ {a : List UInt8}, z ∉ a → segs z a = [a]
  | [], _ => rfl
  | c :: l, h => by
    have h1 : ¬ c = z := fun e => h (by simp [e])
    have h2 : z ∉ l := fun e => h (List.mem_cons_of_mem _ e)
    unfold segs
    rw [if_neg h1, segs_no h2]
theorem segs_cut {z : UInt8} : ∀ {a : List UInt8} (b : List UInt8), z ∉ a → segs z (a ++ z :: b) = a :: segs z b
  | [], b, _ => by simp [segs]
  | c :: l, b, h => by
    have h1 : ¬ c = z := fun e => h (by simp [e])
    have h2 : z ∉ l := fun e => h (List.mem_cons_of_mem _ e)
    have e : segs z (c :: (l ++ z :: b)) = (if c = z then [] :: segs z (l ++ z :: b) else match segs z (l ++ z :: b) with
      | [] => [[c]]
      | h :: t => (c :: h) :: t) := rfl
    show segs z (c :: (l ++ z :: b)) = _
    rw [e, if_neg h1, segs_cut b h2]

/-- The pieces of a text: those of no byte are left out. -/
def parts (z : UInt8) (l : List UInt8) : List (List UInt8) := (segs z l).filter (fun p => !p.isEmpty)

theorem parts_no {z : UInt8} {a : List UInt8} (h : z ∉ a) : parts z a = if a = [] then [] else [a] := by
  unfold parts
  rw [segs_no h]
  cases a <;> simp
theorem parts_cut {z : UInt8} {a : List UInt8} (b : List UInt8) (h : z ∉ a) : parts z (a ++ z :: b) = (if a = [] then [] else [a]) ++ parts z b := by
  unfold parts
  rw [segs_cut b h]
  cases a <;> simp
/-- The text of these bytes. -/
def bs (l : List UInt8) : ByteArray := ⟨l.toArray⟩
theorem bs_data (l : List UInt8) : (bs l).data.toList = l := rfl
theorem bs_size (l : List UInt8) : (bs l).size = l.length := rfl
theorem bs_toList (l : List UInt8) : (bs l).toList = l := by rw [ByteArray.toList_eq]; rfl
theorem bs_of (s : ByteArray) : bs s.data.toList = s := by cases s; rfl
theorem bs_inj {a b : List UInt8} : bs a = bs b ↔ a = b := by
  constructor
  · intro h; have := congrArg (fun x => x.data.toList) h; simpa [bs] using this
  · rintro rfl; rfl

theorem ib_no : ∀ {l : List UInt8} {c : UInt8}, c ∉ l → Lib.indexByte l c = -1
  | [], _, _ => rfl
  | b :: l, c, h => by
    have h1 : (b == c) = false := by simp; intro e; exact h (by simp [e])
    have h2 := ib_no (l := l) (c := c) (fun e => h (List.mem_cons_of_mem _ e))
    unfold Lib.indexByte
    rw [h1, h2]
    rfl
theorem ib_yes : ∀ {a : List UInt8} {c : UInt8} (b : List UInt8), c ∉ a → Lib.indexByte (a ++ c :: b) c = a.length
  | [], c, b, _ => by simp [Lib.indexByte]
  | x :: a, c, b, h => by
    have h1 : (x == c) = false := by simp; intro e; exact h (by simp [e])
    have h2 := ib_yes (a := a) (c := c) b (fun e => h (List.mem_cons_of_mem _ e))
    show Lib.indexByte (x :: (a ++ c :: b)) c = _
    unfold Lib.indexByte
    rw [h1, h2]
    have : ((a.length : Int) == -1) = false := by simp
    rw [this]
    simp
theorem first_of {c : UInt8} : ∀ {l : List UInt8}, c ∈ l → ∃ a b, l = a ++ c :: b ∧ c ∉ a
  | [], h => by simp at h
  | x :: l, h => by
    by_cases e : x = c
    · exact ⟨[], l, by simp [e], by simp⟩
    · obtain ⟨a, b, rfl, hc⟩ := first_of (l := l) (by rcases List.mem_cons.1 h with h | h; exact absurd h.symm e; exact h)
      refine ⟨x :: a, b, rfl, fun h => ?_⟩
      rcases List.mem_cons.1 h with h | h
      · exact e h.symm
      · exact hc h
theorem ib_iff {l : List UInt8} {c : UInt8} : 0 ≤ Lib.indexByte l c ↔ c ∈ l := by
  constructor
  · intro h
    by_cases hc : c ∈ l
    · exact hc
    · rw [ib_no hc] at h; omega
  · intro h
    obtain ⟨a, b, rfl, hc⟩ := first_of h
    rw [ib_yes b hc]
    omega

set_option maxHeartbeats 1000000 in
theorem slcut_yes (z : UInt8) (la lb : List UInt8) (h : z ∉ la) (w : World) (hs : la.length + lb.length < 9223372036854775000) :
    Calls Tryz.prog 76 #[.string (bs (la ++ z :: lb)), .string ⟨#[z]⟩] w fun e w' => e = .returned (.tuple #[.string (bs la), .string (bs lb), .bool true]) ∧ ∃ n, w' = w.drewN n := by
  have e1 : (bs (la ++ z :: lb)).extract 0 la.length = bs la := by rw [Lib.extract_eq, bs_data]; simp [bs]
  have e2 : (bs (la ++ z :: lb)).extract (la.length + 1) (bs (la ++ z :: lb)).size = bs lb := by
    rw [Lib.extract_eq, bs_data, bs_size]
    have : (la ++ z :: lb).drop (la.length + 1) = lb := by rw [List.drop_append]; simp
    have h2 : ((la ++ z :: lb).length - (la.length + 1)) = lb.length := by simp; omega
    rw [this, h2, List.take_length]
    rfl
  have e3 : Lib.indexByte (bs (la ++ z :: lb)).data.toList z = la.length := by rw [bs_data]; exact ib_yes lb h
  have e4 : (bs (la ++ z :: lb)).size = la.length + lb.length + 1 := by rw [bs_size]; simp; omega
  obtain ⟨s, hs1⟩ : ∃ s, s = bs (la ++ z :: lb) := ⟨_, rfl⟩
  rw [← hs1] at e1 e2 e3 e4 ⊢
  obtain ⟨i, hi⟩ : ∃ i, i = la.length := ⟨_, rfl⟩
  rw [← hi] at e1 e2 e3 e4 hs
  have E1 : Hid (s.extract 0 i = bs la) := e1
  have E2 : Hid (s.extract (i + 1) s.size = bs lb) := e2
  have E3 : Hid (Lib.indexByte s.data.toList z = i) := e3
  obtain ⟨n, hn⟩ : ∃ n, n = s.size := ⟨_, rfl⟩
  rw [← hn] at e4
  have c1 : (0 : Int) ≤ ↑i := by omega
  have c2 : (↑i : Int) ≤ ↑s.size := by omega
  have c3 : (0 : Int) ≤ ↑i + 1 := by omega
  have c4 : (↑i + 1 : Int) ≤ ↑s.size := by omega
  have mixed := mixedT
  clear e1 e2 e3 hs1 hi h
  go_enter Tryz.func76, Tryz.ntmps76
  go_wp2_with (go_at_call 82; refine (Tryz.stringslite_Index_one _ _ _).mono ?_; rintro e w' ⟨rfl, rfl⟩; rw [E3.out])
  go_region_o
  go_wp2
  go_ret3
  refine ⟨?_, 1, rfl⟩
  rw [← E1.out, ← E2.out]
  rfl

theorem slcut_no (z : UInt8) (la : List UInt8) (h : z ∉ la) (w : World) :
    Calls Tryz.prog 76 #[.string (bs la), .string ⟨#[z]⟩] w fun e w' => e = .returned (.tuple #[.string (bs la), .string (bs []), .bool false]) ∧ ∃ n, w' = w.drewN n := by
  have e3 : Lib.indexByte (bs la).data.toList z = -1 := by rw [bs_data]; exact ib_no h
  obtain ⟨s, hs1⟩ : ∃ s, s = bs la := ⟨_, rfl⟩
  rw [← hs1] at e3 ⊢
  have E3 : Hid (Lib.indexByte s.data.toList z = -1) := e3
  clear e3 hs1 h
  go_enter Tryz.func76, Tryz.ntmps76
  go_wp2_with (go_at_call 82; refine (Tryz.stringslite_Index_one _ _ _).mono ?_; rintro e w' ⟨rfl, rfl⟩; rw [E3.out])
  go_ret3
  exact ⟨rfl, 0, rfl⟩

theorem cut_yes (z : UInt8) (la lb : List UInt8) (h : z ∉ la) (w : World) (hs : la.length + lb.length < 9223372036854775000) :
    Calls Tryz.prog 69 #[.string (bs (la ++ z :: lb)), .string ⟨#[z]⟩] w fun e w' => e = .returned (.tuple #[.string (bs la), .string (bs lb), .bool true]) ∧ ∃ n, w' = w.drewN n := by
  have hc := fun w => slcut_yes z la lb h w hs
  go_enter Tryz.func69, Tryz.ntmps69
  go_wp2_with (go_at_call 76; refine (hc _).mono ?_; rintro e w' ⟨rfl, n, rfl⟩)
  go_ret3
  exact ⟨rfl, n, rfl⟩
theorem cut_no (z : UInt8) (la : List UInt8) (h : z ∉ la) (w : World) :
    Calls Tryz.prog 69 #[.string (bs la), .string ⟨#[z]⟩] w fun e w' => e = .returned (.tuple #[.string (bs la), .string (bs []), .bool false]) ∧ ∃ n, w' = w.drewN n := by
  have hc := fun w => slcut_no z la h w
  go_enter Tryz.func69, Tryz.ntmps69
  go_wp2_with (go_at_call 76; refine (hc _).mono ?_; rintro e w' ⟨rfl, n, rfl⟩)
  go_ret3
  exact ⟨rfl, n, rfl⟩
end Go.Proofs.YtmaekpfkkpkgpaaGreatDoor
