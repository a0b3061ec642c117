/-
  The faults of a plan, sorted by their numbers.
-/
import Derived.Test.YtiejkbncpbhcdaaCColl
import Derived.Test.YtiejkbncpbhcdaaCShelf
namespace Go.Proofs.Ytiejkbncpbhcdaa
open Go.RowKit Go.Shelf
open Go.Sort (SWO grow grow_grow alloc_eq_grow mapBlock onCells HoldsK holdsK_grow holdsK_putRowK holdsK_ahead putRowK size_flatK get_flatK)

/-- How two faults are compared. -/
def cmpF (x y : Flt) : Int := Lib.compareInt x.num y.num
theorem ltF (x y : Flt) : ltOf cmpF x y = decide (x.num < y.num) := by
  unfold ltOf cmpF Lib.compareInt
  by_cases h1 : x.num < y.num
  · simp [h1]
  · by_cases h2 : y.num < x.num <;> simp [h1, h2]
theorem swoF : SWO (ltOf cmpF) :=
  ⟨fun x => by rw [ltF]; simp, fun x y z h1 h2 => by rw [ltF] at *; simp at *; omega, fun x y z h1 h2 => by rw [ltF] at *; simp at *; omega⟩

set_option maxHeartbeats 1000000 in
theorem cmp_any (x y : Flt) (W : World) : Calls Try.prog 56 #[.agg #[.int .i64 x.num, .int .i64 x.kind, .int .i64 x.torn], .agg #[.int .i64 y.num, .int .i64 y.kind, .int .i64 y.torn]] W fun e w' => e = .returned (.int .i64 (cmpF x y)) ∧ ∃ q os', w' = grow (W.drewN q) os' := by
  have hcon := fun W' => Try.cmp_Compare_int x.num y.num W'
  have e : Lib.compareInt x.num y.num = cmpF x y := rfl
  rw [e] at hcon
  generalize cmpF x y = r at hcon ⊢
  clear e
  go_enter Try.func56, Try.ntmps56
  go_wp2_with (go_at_call 57; refine (hcon _).mono ?_; rintro e w' ⟨rfl, rfl⟩)
  go_ret
  exact ⟨rfl, 0, _, by rw [alloc_eq_grow, alloc_eq_grow, grow_grow]; rfl⟩
theorem cmpLays [Inhabited Flt] (blk off size : Nat) (w : World) : CmpLays Try.prog 56 #[] flCells 3 cmpF blk off size w :=
  fun _ _ _ _ x y => cmp_any x y _
theorem Row.nil {W : World} {B : Nat} {cs : List Value} {t : TypeId} (h : Row W B cs t) : Row W B [] t := by
  obtain ⟨r, h⟩ := h; exact ⟨cs ++ r, by simpa using h⟩

theorem holds_row [Inhabited Flt] {W : World} {g : Nat} {l : List Flt} {t : TypeId} (h : Row W g (l.flatMap flCells) t) : HoldsK flCells 3 W g 0 l.toArray := by
  intro j hj
  rw [size_flatK] at hj
  have hj' : j < l.length * 3 := by simpa using hj
  have hlt : j / 3 < l.length := by omega
  rw [Nat.zero_add]
  refine ⟨?_, h.frozen j⟩
  rw [get_flatK _ _ _ _ hj]
  have e := flat_get flCells 3 fl_len (j % 3) (by omega) l (j / 3) l[j / 3] (List.getElem?_eq_getElem hlt)
  rw [show j / 3 * 3 + j % 3 = j by omega] at e
  have hk : j % 3 < (flCells l[j / 3]).length := by rw [fl_len]; omega
  rw [List.getElem?_eq_getElem hk] at e
  rw [h.cell e]
  have e2 : l.toArray[j / 3]! = l[j / 3] := by simp [hlt]
  rw [e2, getElem!_pos (flCells l[j / 3]) (j % 3) hk]
  rfl
theorem below_grow (W : World) (os : Array Obj) : Below W.heap.size W (grow W os) :=
  ⟨rfl, rfl, rfl, by simp [grow], fun k hk => by simp [grow, Array.getElem?_append_left hk]⟩
theorem below_map (W : World) (n g : Nat) (f : Array Value → Array Value) (B : Nat) (hB : B ≤ g) : Below B W (mapBlock (Sort.ahead W n) g f) :=
  ⟨rfl, rfl, rfl, by simp [mapBlock, Sort.ahead], fun k hk => by simp [mapBlock, Sort.ahead, Array.getElem?_modify, show ¬ g = k by omega]⟩
theorem row_map {W : World} {g : Nat} {t : TypeId} (n : Nat) (f : Array Value → Array Value) (h : Row W g [] t) : Row (mapBlock (Sort.ahead W n) g f) g [] t := by
  obtain ⟨r, h⟩ := h
  refine ⟨(f r.toArray).toList, ?_⟩
  obtain ⟨hlt, hk⟩ := Array.getElem?_eq_some_iff.1 h
  show (W.heap.modify g (onCells f))[g]? = _
  rw [Array.getElem?_eq_getElem (by rw [Array.size_modify]; exact hlt), Array.getElem_modify_self, hk]
  simp [onCells]
theorem sort_any (v : Value) (l : List Flt) (W : World) (base : Nat) (h : W.ownsRow base 78 3 v l.length (l.flatMap flCells)) (hl : l.length ≤ 256) :
    Calls Try.prog 67 #[v, .func (.func 56) #[] #[]] W fun e w' => e = .returned (.tuple #[]) ∧ ∃ s : List Flt, s.Perm l ∧ s.Pairwise (fun x y => x.num ≤ y.num) ∧ (∃ fa fc, v = .slice fa l.length fc ∧ Flts w' fa fc s) ∧ Below base W w' := by
  have : Inhabited Flt := ⟨⟨0, 0, 0⟩⟩
  by_cases h0 : l = []
  · subst h0
    have hc : ∃ fa fc, v = .slice fa 0 fc ∧ fc ≤ maxLen := by
      rcases h.2 with ⟨rfl, _⟩ | ⟨g, cap, cur, rfl, _, _, _, hcm, _⟩
      · exact ⟨none, 0, rfl, Nat.zero_le _⟩
      · exact ⟨_, cap, rfl, hcm⟩
    obtain ⟨fa, fc, rfl, hcm⟩ := hc
    refine (AnyF.slices_SortFunc_none Try.sortF fa fc (.func (.func 56) #[] #[]) W).mono ?_
    rintro e w' ⟨rfl, rfl⟩
    exact ⟨rfl, [], List.Perm.refl _, List.Pairwise.nil, ⟨fa, fc, rfl, Nat.zero_le _, hcm, .inl rfl, .inl rfl⟩, Below.refl _ _⟩
  · have hpos : 0 < l.length := List.length_pos_iff.2 h0
    obtain ⟨g, cap, rfl, q1, q2, q3, q4⟩ := Row.of_owns h hpos
    have eg : ∀ args w, (callFunc 56 args).run Try.prog w = .ok (.enter 56 args) w := enters_of Try.func56 (by kernel_rfl) rfl
    have hcon := AnyQ.slices_SortFunc Try.sortF 3 Try.isAgg78 Try.sizeOf78 flCells fl_len (fun x u hu => fl_one [x] u (by simpa using hu)) cmpF swoF 56 #[] g 0 cap l.toArray W eg (cmpLays g 0 _ W) (holds_row q4) q4.lt (by simp; omega)
    simp only [List.size_toArray] at hcon
    refine hcon.mono ?_
    rintro e w' ⟨rfl, d', n, os, p1, p2, rfl⟩
    obtain ⟨p11, _, p13⟩ := p1
    have hsz : d'.size = l.length := by simpa using p11
    have hperm : d'.toList.Perm l := by
      have e1 : d'.extract 0 l.length = d' := by rw [← hsz]; simp
      have e2 : l.toArray.extract 0 l.length = l.toArray := by simp
      rw [e1, e2] at p13
      simpa using p13
    have hH : HoldsK flCells 3 (sortWorldK flCells 3 W g 0 n d' os) g 0 d' :=
      holdsK_grow _ _ _ _ _ _ _ (by simp [putRowK, Sort.ahead]; exact q4.lt) (holdsK_putRowK _ _ _ _ _ l.toArray d' (holdsK_ahead _ _ _ _ _ _ _ (holds_row q4)) (by simpa using hsz))
    refine ⟨rfl, d'.toList, hperm, ?_, ⟨_, cap, rfl, ?_, q2, ?_, ?_⟩, ?_⟩
    · rw [List.pairwise_iff_getElem]
      intro i j hi hj hij
      have hi' : i < d'.size := by simpa using hi
      have hj' : j < d'.size := by simpa using hj
      have := p2 i j (Nat.zero_le _) hij (by omega)
      rw [ltF, getElem!_pos d' j hj', getElem!_pos d' i hi'] at this
      simp at this
      simpa using this
    · simpa [hsz] using q1
    · refine .inr ⟨g, 0, rfl, [], ?_⟩
      exact (row_map n _ q4.nil).later (below_grow _ os)
    · refine .inr ⟨g, 0, rfl, fun i f hf => ?_⟩
      obtain ⟨hi, hfi⟩ := List.getElem?_eq_some_iff.1 hf
      have hi' : i < d'.size := by simpa using hi
      have hd : d'[i]! = f := by rw [getElem!_pos d' i hi']; simpa using hfi
      have c0 := (hH.cell (c := 0) hi' (by decide)).1
      have c1 := (hH.cell (c := 1) hi' (by decide)).1
      have c2 := (hH.cell (c := 2) hi' (by decide)).1
      rw [hd] at c0 c1 c2
      exact ⟨c0, c1, c2⟩
    · exact (below_map W n g _ base q3).trans ((below_grow _ os).mono (by simp [mapBlock, Sort.ahead]; have := q4.lt; omega))
end Go.Proofs.Ytiejkbncpbhcdaa
