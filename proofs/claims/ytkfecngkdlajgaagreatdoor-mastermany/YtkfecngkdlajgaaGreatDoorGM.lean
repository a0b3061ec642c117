/-
  The faults of a plan, sorted by their numbers.
  What scheduled answers: the faults of a plan that is right, in order; or that it is not right.
  What Right answers.
-/
import Derived.Test.YtkfecngkdlajgaaGreatDoorGL
import Derived.Test.YtkfecngkdlajgaaGreatDoorCShelf
import Derived.Test.YtkfecngkdlajgaaGreatDoorCShelfS
import Derived.Test.YtkfecngkdlajgaaGreatDoorGJ
import Derived.Shelf.SlSortCmp.QuietGrown
import Derived.BigQuiet
namespace Go.Proofs.YtkfecngkdlajgaaGreatDoor
open Go.RowKit Go.Shelf
set_option maxRecDepth 10000
open Go.Sort (SWO grow grow_grow alloc_eq_grow mapBlock onCells HoldsK holdsK_grow holdsK_putRowK holdsK_ahead putRowK size_flatK get_flatK)

/-- How two faults are compared. -/
def cmpF (x y : Flt) : Int := Lib.compareInt x.num y.num
theorem ltF (x y : Flt) : ltOf cmpF x y = decide (x.num < y.num) := by
  unfold ltOf cmpF Lib.compareInt
  by_cases h1 : x.num < y.num
  · simp [h1]
  · by_cases h2 : y.num < x.num <;> simp [h1, h2]
theorem swoF : SWO (ltOf cmpF) :=
  ⟨fun x => by rw [ltF]; simp, fun x y z h1 h2 => by rw [ltF] at *; simp at *; omega, fun x y z h1 h2 => by rw [ltF] at *; simp at *; omega⟩

set_option maxHeartbeats 1000000 in
theorem cmp_any (x y : Flt) (W : World) : Calls Tryz.prog 52 #[.agg #[.int .i64 x.num, .int .i64 x.kind, .int .i64 x.torn], .agg #[.int .i64 y.num, .int .i64 y.kind, .int .i64 y.torn]] W fun e w' => e = .returned (.int .i64 (cmpF x y)) ∧ ∃ q os', w' = grow (W.drewN q) os' := by
  have hcon := fun W' => Tryz.cmp_Compare_int x.num y.num W'
  have e : Lib.compareInt x.num y.num = cmpF x y := rfl
  rw [e] at hcon
  generalize cmpF x y = r at hcon ⊢
  clear e
  go_enter Tryz.func52, Tryz.ntmps52
  go_wp2_with (go_at_call 53; refine (hcon _).mono ?_; rintro e w' ⟨rfl, rfl⟩)
  go_ret
  exact ⟨rfl, 0, _, by rw [alloc_eq_grow, alloc_eq_grow, grow_grow]; rfl⟩
theorem cmpLays [Inhabited Flt] (blk off size : Nat) (w : World) : CmpLays Tryz.prog 52 #[] flCells 3 cmpF blk off size w :=
  fun _ _ _ _ x y => cmp_any x y _
theorem Row.nil {W : World} {B : Nat} {cs : List Value} {t : TypeId} (h : Row W B cs t) : Row W B [] t := by
  obtain ⟨r, h⟩ := h; exact ⟨cs ++ r, by simpa using h⟩

theorem holds_row [Inhabited Flt] {W : World} {g : Nat} {l : List Flt} {t : TypeId} (h : Row W g (l.flatMap flCells) t) : HoldsK flCells 3 W g 0 l.toArray := by
  intro j hj
  rw [size_flatK] at hj
  have hj' : j < l.length * 3 := by simpa using hj
  have hlt : j / 3 < l.length := by omega
  rw [Nat.zero_add]
  refine ⟨?_, h.frozen j⟩
  rw [get_flatK _ _ _ _ hj]
  have e := flat_get flCells 3 fl_len (j % 3) (by omega) l (j / 3) l[j / 3] (List.getElem?_eq_getElem hlt)
  rw [show j / 3 * 3 + j % 3 = j by omega] at e
  have hk : j % 3 < (flCells l[j / 3]).length := by rw [fl_len]; omega
  rw [List.getElem?_eq_getElem hk] at e
  rw [h.cell e]
  have e2 : l.toArray[j / 3]! = l[j / 3] := by simp [hlt]
  rw [e2, getElem!_pos (flCells l[j / 3]) (j % 3) hk]
  rfl
theorem below_grow (W : World) (os : Array Obj) : Below W.heap.size W (grow W os) :=
  ⟨rfl, rfl, rfl, by simp [grow], fun k hk => by simp [grow, Array.getElem?_append_left hk]⟩
theorem below_map (W : World) (n g : Nat) (f : Array Value → Array Value) (B : Nat) (hB : B ≤ g) : Below B W (mapBlock (Sort.ahead W n) g f) :=
  ⟨rfl, rfl, rfl, by simp [mapBlock, Sort.ahead], fun k hk => by simp [mapBlock, Sort.ahead, Array.getElem?_modify, show ¬ g = k by omega]⟩
theorem row_map {W : World} {g : Nat} {t : TypeId} (n : Nat) (f : Array Value → Array Value) (h : Row W g [] t) : Row (mapBlock (Sort.ahead W n) g f) g [] t := by
  obtain ⟨r, h⟩ := h
  refine ⟨(f r.toArray).toList, ?_⟩
  obtain ⟨hlt, hk⟩ := Array.getElem?_eq_some_iff.1 h
  show (W.heap.modify g (onCells f))[g]? = _
  rw [Array.getElem?_eq_getElem (by rw [Array.size_modify]; exact hlt), Array.getElem_modify_self, hk]
  simp [onCells]
theorem sort_any (v : Value) (l : List Flt) (W : World) (base : Nat) (h : W.ownsRow base 66 3 v l.length (l.flatMap flCells)) (hl : l.length ≤ 256) :
    Calls Tryz.prog 91 #[v, .func (.func 52) #[] #[]] W fun e w' => e = .returned (.tuple #[]) ∧ ∃ s : List Flt, s.Perm l ∧ s.Pairwise (fun x y => x.num ≤ y.num) ∧ (∃ fa fc, v = .slice fa l.length fc ∧ Flts w' fa fc s) ∧ Below base W w' := by
  have : Inhabited Flt := ⟨⟨0, 0, 0⟩⟩
  by_cases h0 : l = []
  · subst h0
    have hc : ∃ fa fc, v = .slice fa 0 fc ∧ fc ≤ maxLen := by
      rcases h.2 with ⟨rfl, _⟩ | ⟨g, cap, cur, rfl, _, _, _, hcm, _⟩
      · exact ⟨none, 0, rfl, Nat.zero_le _⟩
      · exact ⟨_, cap, rfl, hcm⟩
    obtain ⟨fa, fc, rfl, hcm⟩ := hc
    refine (AnyF.slices_SortFunc_none Tryz.sortF fa fc (.func (.func 52) #[] #[]) W).mono ?_
    rintro e w' ⟨rfl, rfl⟩
    exact ⟨rfl, [], List.Perm.refl _, List.Pairwise.nil, ⟨fa, fc, rfl, Nat.zero_le _, hcm, .inl rfl, .inl rfl⟩, Below.refl _ _⟩
  · have hpos : 0 < l.length := List.length_pos_iff.2 h0
    obtain ⟨g, cap, rfl, q1, q2, q3, q4⟩ := Row.of_owns h hpos
    have eg : ∀ args w, (callFunc 52 args).run Tryz.prog w = .ok (.enter 52 args) w := enters_of Tryz.func52 (by kernel_rfl) rfl
    have hcon := AnyQ.slices_SortFunc Tryz.sortF 3 Tryz.isAgg66 Tryz.sizeOf66 flCells fl_len (fun x u hu => fl_one [x] u (by simpa using hu)) cmpF swoF 52 #[] g 0 cap l.toArray W eg (cmpLays g 0 _ W) (holds_row q4) q4.lt (by simp; omega)
    simp only [List.size_toArray] at hcon
    refine hcon.mono ?_
    rintro e w' ⟨rfl, d', n, os, p1, p2, rfl⟩
    obtain ⟨p11, _, p13⟩ := p1
    have hsz : d'.size = l.length := by simpa using p11
    have hperm : d'.toList.Perm l := by
      have e1 : d'.extract 0 l.length = d' := by rw [← hsz]; simp
      have e2 : l.toArray.extract 0 l.length = l.toArray := by simp
      rw [e1, e2] at p13
      simpa using p13
    have hH : HoldsK flCells 3 (sortWorldK flCells 3 W g 0 n d' os) g 0 d' :=
      holdsK_grow _ _ _ _ _ _ _ (by simp [putRowK, Sort.ahead]; exact q4.lt) (holdsK_putRowK _ _ _ _ _ l.toArray d' (holdsK_ahead _ _ _ _ _ _ _ (holds_row q4)) (by simpa using hsz))
    refine ⟨rfl, d'.toList, hperm, ?_, ⟨_, cap, rfl, ?_, q2, ?_, ?_⟩, ?_⟩
    · rw [List.pairwise_iff_getElem]
      intro i j hi hj hij
      have hi' : i < d'.size := by simpa using hi
      have hj' : j < d'.size := by simpa using hj
      have := p2 i j (Nat.zero_le _) hij (by omega)
      rw [ltF, getElem!_pos d' j hj', getElem!_pos d' i hi'] at this
      simp at this
      simpa using this
    · simpa [hsz] using q1
    · refine .inr ⟨g, 0, rfl, [], ?_⟩
      exact (row_map n _ q4.nil).later (below_grow _ os)
    · refine .inr ⟨g, 0, rfl, fun i f hf => ?_⟩
      obtain ⟨hi, hfi⟩ := List.getElem?_eq_some_iff.1 hf
      have hi' : i < d'.size := by simpa using hi
      have hd : d'[i]! = f := by rw [getElem!_pos d' i hi']; simpa using hfi
      have c0 := (hH.cell (c := 0) hi' (by decide)).1
      have c1 := (hH.cell (c := 1) hi' (by decide)).1
      have c2 := (hH.cell (c := 2) hi' (by decide)).1
      rw [hd] at c0 c1 c2
      exact ⟨c0, c1, c2⟩
    · exact (below_map W n g _ base q3).trans ((below_grow _ os).mono (by simp [mapBlock, Sort.ahead]; have := q4.lt; omega))
end Go.Proofs.YtkfecngkdlajgaaGreatDoor
namespace Go.Proofs.YtkfecngkdlajgaaGreatDoor
open Go.RowKit Go.Shelf
set_option maxRecDepth 10000

/-- A plan's faults are right. -/
def planOk (l : List Flt) : Prop := (∀ f ∈ l, f.ok) ∧ (l.map Flt.num).Nodup

theorem values_any (a : Option Addr) (m cap : Nat) (w : World) :
    Calls Tryz.prog 51 #[.slice a m cap] w fun e w' => e = .returned (.func (.func 92) #[] #[.pointer (some ⟨w.heap.size, 0, none⟩)]) ∧ w' = w.alloc (.cells #[.slice a m cap] 24) := by
  go_enter Tryz.func51, Tryz.ntmps51
  go_wp2
  go_ret
  exact ⟨rfl, rfl⟩
theorem collect_any (Bn m cap : Nat) (l : List Flt) (a : Option Addr) (hm : m = l.length) (hl : m ≤ 256) (w : World) (hBn : w.cell? ⟨Bn, 0, none⟩ = some (.slice a m cap)) (hr : FRow w a l) :
    Calls Tryz.prog 90 #[.func (.func 92) #[] #[.pointer (some ⟨Bn, 0, none⟩)]] w fun e w' => ∃ v, e = .returned v ∧ w'.ownsRow w.heap.size 66 3 v l.length (l.flatMap flCells) ∧ Below w.heap.size w w' := by
  have h := callsIn_wide.1 (appendSeq_in 3 (by omega) Bn m cap l a hm hl w hBn hr)
  clear hBn hr hm
  go_enter Tryz.func90, Tryz.ntmps90
  go_wp2_with (go_at_call 135; refine h.mono ?_; rintro e w1 ⟨v, rfl, q1, q2⟩; obtain ⟨ao, cp, rfl⟩ := own_form q1)
  go_ret
  exact ⟨_, rfl, q1, q2⟩
theorem sort_at (fa : Option Addr) (fc m : Nat) (l : List Flt) (W : World) (base : Nat) (hm : m = l.length) (h : W.ownsRow base 66 3 (.slice fa m fc) m (l.flatMap flCells)) (hl : m ≤ 256) :
    Calls Tryz.prog 91 #[.slice fa m fc, .func (.func 52) #[] #[]] W fun e w' => e = .returned (.tuple #[]) ∧ ∃ s : List Flt, s.Perm l ∧ s.Pairwise (fun x y => x.num ≤ y.num) ∧ Flts w' fa fc s ∧ Below base W w' := by
  subst hm
  refine (sort_any _ l W base h hl).mono ?_
  rintro e w' ⟨rfl, s, p1, p2, ⟨fa', fc', p3, p4⟩, p5⟩
  have e : fa' = fa ∧ fc' = fc := by simp at p3; exact ⟨p3.1.symm, p3.2.symm⟩
  obtain ⟨rfl, rfl⟩ := e
  exact ⟨rfl, s, p1, p2, p4, p5⟩
theorem sorted_any (Bn m cap : Nat) (l : List Flt) (a : Option Addr) (hm : m = l.length) (hl : m ≤ 256) (w : World) (hBn : w.cell? ⟨Bn, 0, none⟩ = some (.slice a m cap)) (hr : FRow w a l) :
    Calls Tryz.prog 50 #[.func (.func 92) #[] #[.pointer (some ⟨Bn, 0, none⟩)], .func (.func 52) #[] #[]] w fun e w' => ∃ (s : List Flt) (fa : Option Addr) (fc : Nat), e = .returned (.slice fa m fc) ∧ s.Perm l ∧ s.Pairwise (fun x y => x.num ≤ y.num) ∧ Flts w' fa fc s ∧ Below w.heap.size w w' := by
  have h := collect_any Bn m cap l a hm hl w hBn hr
  rw [← hm] at h
  have HM : Hid (m = l.length) := hm
  clear hBn hr hm
  go_enter Tryz.func50, Tryz.ntmps50
  go_wp2_with (first
    | (go_at_call 90; refine h.mono ?_; rintro e w1 ⟨v, rfl, q1, q2⟩; obtain ⟨ao, cp, rfl⟩ := own_form q1)
    | (go_at_call 91; refine (sort_at ao cp m l w1 w.heap.size HM.out q1 hl).mono ?_; rintro e w2 ⟨rfl, s, p1, p2, p4, p5⟩))
  go_ret
  exact ⟨s, ao, cp, rfl, p1, p2, p4, q2.trans p5⟩

theorem possible_yes (f : Flt) (h : f.ok) (w : World) : Calls Tryz.prog 54 #[.agg #[.int .i64 f.num, .int .i64 f.kind, .int .i64 f.torn]] w fun e w' => e = .returned (.bool true) ∧ w' = w.alloc (.cells #[.int .i64 f.num, .int .i64 f.kind, .int .i64 f.torn] 66) := by
  obtain ⟨h1, h2⟩ := h
  have hw := fun W => within_any f.torn 0 2 W
  have k1 : ¬ f.num < 1 := by omega
  rcases h2 with ⟨h2, h3⟩ | ⟨h2, h3⟩
  · have k2 : (f.kind == 1) = true := by simpa using h2
    rw [decide_eq_true (by omega)] at hw
    clear h2 h3
    go_enter Tryz.func54, Tryz.ntmps54
    go_wp2_with (go_at_call 81; refine (hw _).mono ?_; rintro e w' ⟨rfl, rfl⟩)
    go_ret
    exact ⟨rfl, rfl⟩
  · have k2 : (f.kind == 1) = false := by simp [h2]
    have k3 : (f.kind == 2) = true := by simpa using h2
    have k4 : (f.torn == 0) = true := by simpa using h3
    clear hw h2 h3
    go_enter Tryz.func54, Tryz.ntmps54
    go_wp2
    go_ret
    exact ⟨rfl, rfl⟩
theorem possible_no (f : Flt) (h : ¬ f.ok) (w : World) : Calls Tryz.prog 54 #[.agg #[.int .i64 f.num, .int .i64 f.kind, .int .i64 f.torn]] w fun e w' => e = .returned (.bool false) ∧ w' = w.alloc (.cells #[.int .i64 f.num, .int .i64 f.kind, .int .i64 f.torn] 66) := by
  by_cases k1 : f.num < 1
  · clear h
    go_enter Tryz.func54, Tryz.ntmps54
    go_wp2
    go_ret
    exact ⟨rfl, rfl⟩
  · have hw := fun W => within_any f.torn 0 2 W
    by_cases h2 : f.kind = 1
    · have k2 : (f.kind == 1) = true := by simpa using h2
      have h3 : ¬ (0 ≤ f.torn ∧ f.torn ≤ 2) := fun q => h ⟨by omega, .inl ⟨h2, by omega⟩⟩
      rw [decide_eq_false h3] at hw
      clear h h2 h3
      go_enter Tryz.func54, Tryz.ntmps54
      go_wp2_with (go_at_call 81; refine (hw _).mono ?_; rintro e w' ⟨rfl, rfl⟩)
      go_ret
      exact ⟨rfl, rfl⟩
    · have k2 : (f.kind == 1) = false := by simpa using h2
      by_cases h3 : f.kind = 2
      · have k3 : (f.kind == 2) = true := by simpa using h3
        have k4 : (f.torn == 0) = false := by simp; intro e; exact h ⟨by omega, .inr ⟨h3, e⟩⟩
        clear h h2 h3 hw
        go_enter Tryz.func54, Tryz.ntmps54
        go_wp2
        go_ret
        exact ⟨rfl, rfl⟩
      · have k3 : (f.kind == 2) = false := by simpa using h3
        clear h h2 h3 hw
        go_enter Tryz.func54, Tryz.ntmps54
        go_wp2
        go_ret
        exact ⟨rfl, rfl⟩

theorem possible_yes' (f : Flt) (h : f.ok) (W : World) : Calls Tryz.prog 54 #[.agg #[.int .i64 f.num, .int .i64 f.kind, .int .i64 f.torn]] W fun e w' => e = .returned (.bool true) ∧ ∃ q os', w' = Go.Sort.grow (W.drewN q) os' :=
  (possible_yes f h W).mono fun e w' ⟨q1, q2⟩ => ⟨q1, 0, #[.cells #[.int .i64 f.num, .int .i64 f.kind, .int .i64 f.torn] 66], by rw [q2, Go.Sort.alloc_eq_grow]; rfl⟩
theorem possible_no' (f : Flt) (h : ¬ f.ok) (W : World) : Calls Tryz.prog 54 #[.agg #[.int .i64 f.num, .int .i64 f.kind, .int .i64 f.torn]] W fun e w' => e = .returned (.bool false) ∧ ∃ q os', w' = Go.Sort.grow (W.drewN q) os' :=
  (possible_no f h W).mono fun e w' ⟨q1, q2⟩ => ⟨q1, 0, #[.cells #[.int .i64 f.num, .int .i64 f.kind, .int .i64 f.torn] 66], by rw [q2, Go.Sort.alloc_eq_grow]; rfl⟩
/-- The first k faults may be, and no two of them that stand beside each other have one number. -/
def upTo (s : List Flt) (k : Nat) : Prop := (∀ i f, i < k → s[i]? = some f → f.ok) ∧ ∀ i f g, i + 1 < k → s[i]? = some f → s[i + 1]? = some g → f.num ≠ g.num
theorem upTo_end {s l : List Flt} (hp : s.Perm l) (hs : s.Pairwise (fun x y => x.num ≤ y.num)) (h : upTo s s.length) : planOk l ∧ s.Pairwise (fun x y => x.num < y.num) := by
  have hlt : s.Pairwise (fun x y => x.num < y.num) := by
    rw [List.pairwise_iff_getElem] at hs ⊢
    intro i j hi hj hij
    obtain ⟨k, rfl⟩ : ∃ k, j = k + 1 := ⟨j - 1, by omega⟩
    have h1 := h.2 k s[k] s[k + 1] hj (List.getElem?_eq_getElem (by omega)) (List.getElem?_eq_getElem hj)
    have h2 := hs k (k + 1) (by omega) hj (by omega)
    by_cases e : i = k
    · subst e; omega
    · have h3 := hs i k hi (by omega) (by omega)
      omega
  refine ⟨⟨fun f hf => ?_, ?_⟩, hlt⟩
  · obtain ⟨i, hi, e⟩ := List.getElem_of_mem (hp.mem_iff.2 hf)
    exact h.1 i f hi (by rw [List.getElem?_eq_getElem hi, e])
  · refine (hp.map Flt.num).nodup_iff.1 ?_
    rw [List.Nodup, List.pairwise_map]
    exact hlt.imp (fun q => by omega)
theorem not_ok {s l : List Flt} {i : Nat} {f : Flt} (hp : s.Perm l) (hi : s[i]? = some f) (h : ¬ f.ok) : ¬ planOk l := fun q => h (q.1 f (hp.mem_iff.1 (List.mem_of_getElem? hi)))
theorem not_two {s l : List Flt} {i : Nat} {f g : Flt} (hp : s.Perm l) (hi : s[i]? = some f) (hj : s[i + 1]? = some g) (h : f.num = g.num) : ¬ planOk l := by
  intro q
  have hn := (hp.map Flt.num).nodup_iff.2 q.2
  rw [List.Nodup, List.pairwise_map, List.pairwise_iff_getElem] at hn
  obtain ⟨i1, e1⟩ := List.getElem?_eq_some_iff.1 hi
  obtain ⟨j1, e2⟩ := List.getElem?_eq_some_iff.1 hj
  exact hn i (i + 1) i1 j1 (by omega) (by rw [e1, e2]; exact h)
theorem sched_results (tmps : Array Value) (B : Nat) (a b c : Value) (W : World) (h2 : tmps[2]?.getD undef = .pointer (some ⟨B, 0, none⟩)) (h3 : tmps[3]?.getD undef = c)
    (ca : W.cell? ⟨B, 0, none⟩ = some a) (cb : W.cell? ⟨B, 1, none⟩ = some b) :
    (results Tryz.f27 tmps).run Tryz.prog W = .ok (.tuple #[.agg #[a, b], c]) W := by
  simp [results, Tryz.f27, go_sem, h2, h3, ca, cb]
theorem scheduled_long (a : Option Addr) (m cap : Nat) (w : World) (hl : 256 < m) :
    Calls Tryz.prog 27 #[.slice a m cap] w fun e w' => e = .returned (.tuple #[.agg #[.slice none 0 0, .int .i64 0], .bool false]) ∧ Below w.heap.size w w' := by
  have k1 : (256 : Int) < (m : Int) := by omega
  go_enter Tryz.func27, Tryz.ntmps27
  go_wp2
  refine bodyPost_ret (v := .tuple #[.agg #[.slice none 0 0, .int .i64 0], .bool false]) ?_ rfl ⟨rfl, ?_⟩
  · simp [results, Tryz.f27, go_sem]
  · exact below_new w _
set_option maxHeartbeats 6000000 in
theorem scheduled_go (a : Option Addr) (m cap : Nat) (l : List Flt) (w : World) (hm : m = l.length) (hl : m ≤ 256) (hr : FRow w a l) :
    Calls Tryz.prog 27 #[.slice a m cap] w fun e w' => (¬ planOk l ∧ e = .returned (.tuple #[.agg #[.slice none 0 0, .int .i64 0], .bool false]) ∧ Below w.heap.size w w') ∨
      (planOk l ∧ ∃ (s : List Flt) (fa : Option Addr) (fc : Nat), s.Perm l ∧ s.Pairwise (fun x y => x.num < y.num) ∧ e = .returned (.tuple #[.agg #[.slice fa m fc, .int .i64 0], .bool true]) ∧ Flts w' fa fc s ∧ Below w.heap.size w w') := by
  have k1 : ¬ (256 : Int) < (m : Int) := by omega
  have hr2 : FRow ((w.alloc (.cells #[.slice none 0 0, .int .i64 0] 72)).alloc (.cells #[.slice a m cap] 24)) a l := by
    rcases hr with e | ⟨b, off, e, hc⟩
    · exact .inl e
    · refine .inr ⟨b, off, e, fun i f hf => ?_⟩
      obtain ⟨q0, q1, q2⟩ := hc i f hf
      have hbw := World.block_lt_of_cell? w _ q0
      have hB1 := Below.after (below_new w (.cells #[.slice none 0 0, .int .i64 0] 72)) (below_new _ (.cells #[.slice a m cap] 24))
      rw [hB1.cell (p := ⟨b, off + i * 3, none⟩) hbw, hB1.cell (p := ⟨b, off + i * 3 + 1, none⟩) hbw, hB1.cell (p := ⟨b, off + i * 3 + 2, none⟩) hbw]
      exact ⟨q0, q1, q2⟩
  have hbx := Row.new (w.alloc (.cells #[.slice none 0 0, .int .i64 0] 72)) [.slice a m cap] 24
  rw [World.size_alloc] at hbx
  have hv := values_any a m cap (w.alloc (.cells #[.slice none 0 0, .int .i64 0] 72))
  rw [World.size_alloc] at hv
  have hs := sorted_any (w.heap.size + 1) m cap l a hm hl _ (hbx.cell (i := 0) rfl) hr2
  have hrow0 := (Row.new w [.slice none 0 0, .int .i64 0] 72).alloc (.cells #[.slice a m cap] 24)
  have hbel0 := Below.after (below_new w (.cells #[.slice none 0 0, .int .i64 0] 72)) (below_new _ (.cells #[.slice a m cap] 24))
  have HM : Hid (m = l.length) := hm
  have HV : Calls Tryz.prog 51 #[.slice a m cap] (w.alloc (.cells #[.slice none 0 0, .int .i64 0] 72)) fun e w' => e = .returned (.func (.func 92) #[] #[.pointer (some ⟨w.heap.size + 1, 0, none⟩)]) ∧ (w.alloc (.cells #[.slice none 0 0, .int .i64 0] 72)).alloc (.cells #[.slice a m cap] 24) = w' := hv.mono fun e w' ⟨q1, q2⟩ => ⟨q1, q2.symm⟩
  clear hm hr hr2 hbx hv
  go_enter Tryz.func27, Tryz.ntmps27
  go_wp2_with (first
    | (go_at_call 51; refine HV.mono ?_; rintro e w' ⟨rfl, rfl⟩)
    | (go_at_call 50; refine hs.mono ?_; rintro e w1 ⟨s, fa, fc, rfl, p1, p2, p3, p4⟩; have hrow1 := hrow0.later p4; have hbel1 := Below.after hbel0 p4))
  have HP1 : Hid (s.Perm l) := p1
  have HP2 : Hid (s.Pairwise (fun x y => x.num ≤ y.num)) := p2
  have hsl : m = s.length := by rw [HM.out]; exact p1.length_eq.symm
  have HSL : Hid (m = s.length) := hsl
  have hfc := p3.cap
  have hfm := p3.max
  unfold maxLen at hfm
  rw [← hsl] at hfc
  clear p1 p2 hs HV hrow0 hbel0 p4 hsl
  go_loopw [16] (fun i wr => ∃ k : Nat, i = .int .i64 k ∧ k ≤ m ∧ Hid (upTo s k) ∧ Below w1.heap.size w1 wr) (fun i _ => m - (intOf i).toNat)
  case atStart => exact ⟨0, rfl, by omega, ⟨fun i f h => by omega, fun i f g h => by omega⟩, Below.refl _ _⟩
  case round =>
    obtain ⟨k, rfl, hk, hup, hbel⟩ := hrel
    have hflt : Flts wr fa fc s := p3.kept (S := fun _ => False) (.of_below hbel) (fun _ _ _ x => x)
    have hrow := hrow1.later hbel
    have hbelw := Below.after hbel1 hbel
    have r0 := hrow.cell (i := 0) rfl
    have r1 := hrow.cell (i := 1) rfl
    have rf0 := hrow.frozen 0
    have rf1 := hrow.frozen 1
    have hrl := hrow.lt
    by_cases hlt : k < m
    · have hkl : k < s.length := by have := HSL.out; omega
      obtain ⟨b, off, rfl, hc⟩ : ∃ b off, fa = some ⟨b, off, none⟩ ∧ ∀ i f, s[i]? = some f → wr.cell? ⟨b, off + i * 3, none⟩ = some (.int .i64 f.num) ∧ wr.cell? ⟨b, off + i * 3 + 1, none⟩ = some (.int .i64 f.kind) ∧ wr.cell? ⟨b, off + i * 3 + 2, none⟩ = some (.int .i64 f.torn) := by
        rcases hflt.row with e | h
        · subst e; simp at hkl
        · exact h
      obtain ⟨f, hf⟩ : ∃ f, s[k]? = some f := ⟨s[k], List.getElem?_eq_getElem hkl⟩
      obtain ⟨g0, g1, g2⟩ := hc k f hf
      have hbw : b < wr.heap.size := World.block_lt_of_cell? wr _ g0
      have HF : Hid (s[k]? = some f) := hf
      have HBW : Hid (Below w.heap.size w wr) := hbelw
      have HBL : Hid (Below w1.heap.size w1 wr) := hbel
      have HUP := hup
      obtain ⟨wq, hwq⟩ : ∃ wq, wq = wr.alloc (Obj.cells #[Value.int IntKind.i64 f.num, Value.int IntKind.i64 f.kind, Value.int IntKind.i64 f.torn] 66) := ⟨_, rfl⟩
      have hbq : Below wr.heap.size wr wq := by rw [hwq]; exact below_new wr _
      have hrq : Row wq wr.heap.size [Value.int IntKind.i64 f.num, Value.int IntKind.i64 f.kind, Value.int IntKind.i64 f.torn] 66 := by rw [hwq]; exact Row.new wr _ _
      have F0 : ∀ n os, (Go.Sort.grow (wq.drewN n) os).cell? ⟨wr.heap.size, 0, none⟩ = some (.int .i64 f.num) := fun n os => cell_grown hrq.lt (hrq.cell (i := 0) rfl) n os
      have F1 : ∀ n os, (Go.Sort.grow (wq.drewN n) os).cell? ⟨wr.heap.size, 1, none⟩ = some (.int .i64 f.kind) := fun n os => cell_grown hrq.lt (hrq.cell (i := 1) rfl) n os
      have F2 : ∀ n os, (Go.Sort.grow (wq.drewN n) os).cell? ⟨wr.heap.size, 2, none⟩ = some (.int .i64 f.torn) := fun n os => cell_grown hrq.lt (hrq.cell (i := 2) rfl) n os
      have after : ∀ n os, Row (Go.Sort.grow (wq.drewN n) os) w.heap.size [.slice none 0 0, .int .i64 0] 72 ∧ Below w.heap.size w (Go.Sort.grow (wq.drewN n) os) ∧ Below w1.heap.size w1 (Go.Sort.grow (wq.drewN n) os) := by
        intro n os
        have hb2 := Below.after hbq (Below.after (below_drawn wq n) (below_grow _ os))
        exact ⟨hrow.later hb2, Below.after hbelw hb2, Below.after hbel hb2⟩
      have HAF : Hid _ := after
      have mixed : Tryz.prog.follows .mixedOrders = true := by kernel_rfl
      have HWQ : Hid (wq = wr.alloc (Obj.cells #[Value.int IntKind.i64 f.num, Value.int IntKind.i64 f.kind, Value.int IntKind.i64 f.torn] 66)) := hwq
      clear hwq after hbq hrq hup
      have stop : ∀ W, Row W w.heap.size [.slice none 0 0, .int .i64 0] 72 → Below w.heap.size w W → Below w.heap.size w ((W.setCell ⟨w.heap.size, 0, none⟩ (.slice none 0 0)).setCell ⟨w.heap.size, 1, none⟩ (.int .i64 0)) := fun W _ h2 => (h2.setCell (p := ⟨w.heap.size, 0, none⟩) (Nat.le_refl _) _).setCell (p := ⟨w.heap.size, 1, none⟩) (Nat.le_refl _) _
      by_cases hok : f.ok
      · have hp : ∀ n os, Calls Tryz.prog 54 #[.agg #[.int .i64 f.num, .int .i64 f.kind, .int .i64 f.torn]] (Go.Sort.grow (wq.drewN n) os) fun e w' => e = .returned (.bool true) ∧ ∃ q os', w' = Go.Sort.grow ((Go.Sort.grow (wq.drewN n) os).drewN q) os' := fun n os => possible_yes' f hok _
        have HOK : Hid f.ok := hok
        by_cases hk0 : k = 0
        · have hz : ¬ (0 : Int) < (k : Int) := by omega
          have hz2 : decide (0 < k) = false := by rw [decide_eq_false (by omega)]
          have HK0 : Hid (k = 0) := hk0
          clear hc hf hflt hok hbel hbelw hk0
          go_wp2
          rw [← HWQ.out]
          refine wp_region_quiet_grown (by assumption) (by kernel_rfl) ?_
          repeat (first | go_big_quiet_skip | quiet_step (first | (go_at_call 54; refine Calls.grown_of (hp _ _))))
          refine wpQuiet_nil ?_
          intro _ hw'
          obtain ⟨⟨nq, osq⟩, hw''⟩ := hw'
          subst hw''
          go_wp2
          obtain ⟨a1, a2, a3⟩ := HAF.out nq osq
          go_roundw
          case rel =>
            refine ⟨k + 1, by simp, by omega, ?_, a3⟩
            refine ⟨fun i g hi hg => ?_, fun i g h hi => by have := HK0.out; omega⟩
            obtain rfl : i = k := by have := HK0.out; omega
            have := HF.out.symm.trans hg
            cases this
            exact HOK.out
          case measure => simp [intOf]; omega
        · obtain ⟨j, rfl⟩ : ∃ j, k = j + 1 := ⟨k - 1, by omega⟩
          obtain ⟨g, hg⟩ : ∃ g, s[j]? = some g := ⟨s[j], List.getElem?_eq_getElem (by omega)⟩
          obtain ⟨j0, _, _⟩ := hc j g hg
          have hz : (0 : Int) < (j : Int) + 1 := by omega
          have HG : Hid (s[j]? = some g) := hg
          have hw1 : IntKind.i64.wrap ((j : Int) + 1 - 1) = j := by rw [IntKind.wrap_i64]; omega
          have hw2 : IntKind.i64.wrap (((j + 1 : Nat) : Int) - 1) = j := by rw [IntKind.wrap_i64]; omega
          have hw3 : IntKind.i64.wrap (j : Int) = j := by rw [IntKind.wrap_i64]; omega
          have hjm : (j : Int) < (m : Int) := by omega
          have J0 : ∀ n os, (Go.Sort.grow (wq.drewN n) os).cell? ⟨b, off + j * 3, none⟩ = some (.int .i64 g.num) := by
            intro n os
            have hb2 := Below.after (below_new wr (Obj.cells #[Value.int IntKind.i64 f.num, Value.int IntKind.i64 f.kind, Value.int IntKind.i64 f.torn] 66)) (Below.after (below_drawn _ n) (below_grow _ os))
            rw [← HWQ.out] at hb2
            rw [hb2.cell (p := ⟨b, off + j * 3, none⟩) hbw]
            exact j0
          by_cases hn : g.num = f.num
          · have e1 : (g.num == f.num) = true := by simpa using hn
            have HN : Hid (g.num = f.num) := hn
            clear hc hf hg hflt hok hbel hbelw hn hk0
            go_wp2
            rw [← HWQ.out]
            go_quiet_grown (first | (go_at_call 54; refine Calls.grown_of (hp _ _)))
            obtain ⟨a1, a2, a3⟩ := HAF.out nq osq
            generalize Go.Sort.grow (wq.drewN nq) osq = W2 at *
            have b0 := a1.cell (i := 0) rfl
            have b1 := a1.cell (i := 1) rfl
            have bf0 := a1.frozen 0
            have bf1 := a1.frozen 1
            go_wp2
            have hW := (a1.set (i := 0) (.slice none 0 0) (by decide)).set (i := 1) (.int .i64 0) (by decide)
            exact bodyPost_ret (sched_results _ w.heap.size (.slice none 0 0) (.int .i64 0) (.bool false) _ rfl rfl (hW.cell (i := 0) rfl) (hW.cell (i := 1) rfl)) rfl (.inl ⟨not_two HP1.out HG.out HF.out HN.out, rfl, stop _ a1 a2⟩)
          · have e1 : (g.num == f.num) = false := by simpa using hn
            have HN : Hid (g.num ≠ f.num) := hn
            clear hc hf hg hflt hok hbel hbelw hn hk0
            go_wp2
            rw [← HWQ.out]
            go_quiet_grown (first | (go_at_call 54; refine Calls.grown_of (hp _ _)))
            go_wp2
            obtain ⟨a1, a2, a3⟩ := HAF.out nq osq
            go_roundw
            case rel =>
              refine ⟨j + 1 + 1, by simp, by omega, ?_, a3⟩
              refine ⟨fun i x hi hx => ?_, fun i x y hi hx hy => ?_⟩
              · by_cases e : i = j + 1
                · subst e
                  have := HF.out.symm.trans hx
                  cases this
                  exact HOK.out
                · exact HUP.out.1 i x (by omega) hx
              · by_cases e : i = j
                · subst e
                  have q1 := HG.out.symm.trans hx
                  have q2 := HF.out.symm.trans hy
                  cases q1
                  cases q2
                  exact HN.out
                · exact HUP.out.2 i x y (by omega) hx hy
            case measure => simp [intOf]; omega
      · have hp : ∀ n os, Calls Tryz.prog 54 #[.agg #[.int .i64 f.num, .int .i64 f.kind, .int .i64 f.torn]] (Go.Sort.grow (wq.drewN n) os) fun e w' => e = .returned (.bool false) ∧ ∃ q os', w' = Go.Sort.grow ((Go.Sort.grow (wq.drewN n) os).drewN q) os' := fun n os => possible_no' f hok _
        have HOK : Hid (¬ f.ok) := hok
        clear hc hf hflt hok hbel hbelw
        go_wp2
        rw [← HWQ.out]
        refine wp_region_quiet_grown (by assumption) (by kernel_rfl) ?_
        repeat (first | go_big_quiet_skip | quiet_step (first | (go_at_call 54; refine Calls.grown_of (hp _ _))))
        refine wpQuiet_nil ?_
        intro _ hw'
        obtain ⟨⟨nq, osq⟩, hw''⟩ := hw'
        subst hw''
        obtain ⟨a1, a2, a3⟩ := HAF.out nq osq
        generalize Go.Sort.grow (wq.drewN nq) osq = W2 at *
        have b0 := a1.cell (i := 0) rfl
        have b1 := a1.cell (i := 1) rfl
        have bf0 := a1.frozen 0
        have bf1 := a1.frozen 1
        go_wp2
        have hW := (a1.set (i := 0) (.slice none 0 0) (by decide)).set (i := 1) (.int .i64 0) (by decide)
        exact bodyPost_ret (sched_results _ w.heap.size (.slice none 0 0) (.int .i64 0) (.bool false) _ rfl rfl (hW.cell (i := 0) rfl) (hW.cell (i := 1) rfl)) rfl (.inl ⟨not_ok HP1.out HF.out HOK.out, rfl, stop _ a1 a2⟩)
    · obtain rfl : k = m := by omega
      have hup2 := hup.out
      rw [HSL.out] at hup2
      obtain ⟨z1, z2⟩ := upTo_end HP1.out HP2.out hup2
      have HF : Hid (Flts wr fa fc s) := hflt
      have hbB : Below w.heap.size w wr := hbelw
      clear hup hup2 hflt hbel hbelw
      go_wp2
      have hW := (hrow.set (i := 0) (.slice fa k fc) (by decide)).set (i := 1) (.int .i64 0) (by simp)
      refine bodyPost_ret (sched_results _ w.heap.size (.slice fa k fc) (.int .i64 0) (.bool true) _ rfl rfl (hW.cell (i := 0) rfl) (hW.cell (i := 1) rfl)) rfl (.inr ⟨z1, s, fa, fc, HP1.out, z2, rfl, ?_, ?_⟩)
      · exact HF.out.kept (S := fun x => x = w.heap.size) (((Kept.refl (fun x => x = w.heap.size) wr).setCell (p := ⟨w.heap.size, 0, none⟩) rfl _).setCell (p := ⟨w.heap.size, 1, none⟩) rfl _) (fun b cs hb e => hb.ne hrow (by decide) e)
      · exact (hbB.setCell (p := ⟨w.heap.size, 0, none⟩) (Nat.le_refl _) _).setCell (p := ⟨w.heap.size, 1, none⟩) (Nat.le_refl _) _
/-- The same, whatever the plan. -/
theorem scheduled_any (a : Option Addr) (m cap : Nat) (l : List Flt) (w : World) (hm : m = l.length) (hr : FRow w a l) :
    Calls Tryz.prog 27 #[.slice a m cap] w fun e w' => (¬ (m ≤ 256 ∧ planOk l) ∧ e = .returned (.tuple #[.agg #[.slice none 0 0, .int .i64 0], .bool false]) ∧ Below w.heap.size w w') ∨
      (m ≤ 256 ∧ planOk l ∧ ∃ (s : List Flt) (fa : Option Addr) (fc : Nat), s.Perm l ∧ s.Pairwise (fun x y => x.num < y.num) ∧ e = .returned (.tuple #[.agg #[.slice fa m fc, .int .i64 0], .bool true]) ∧ Flts w' fa fc s ∧ Below w.heap.size w w') := by
  by_cases h : m ≤ 256
  · refine (scheduled_go a m cap l w hm h hr).mono ?_
    rintro e w' (⟨q1, q2, q3⟩ | ⟨q1, q2⟩)
    · exact .inl ⟨fun q => q1 q.2, q2, q3⟩
    · exact .inr ⟨h, q1, q2⟩
  · refine (scheduled_long a m cap w (by omega)).mono ?_
    rintro e w' ⟨q1, q2⟩
    exact .inl ⟨fun q => h q.1, q1, q2⟩
end Go.Proofs.YtkfecngkdlajgaaGreatDoor
namespace Go.Proofs.YtkfecngkdlajgaaGreatDoor
open Go.RowKit
set_option maxRecDepth 10000

/-- What powerOfTwo says. -/
def powB (n : Int) : Bool := decide (0 < n) && (bits .and .i64 n (wrap64 (n - 1)) == 0)
/-- What Right says. -/
def rightB (b p z r : Int) : Bool :=
  decide (16 ≤ b ∧ b ≤ 256) && (decide (8 ≤ p ∧ p ≤ 64) && (powB p && (decide (64 ≤ z ∧ z ≤ 512) && (powB z && (decide (1536 ≤ wrap64 (wrap64 (p - 2) * z)) && decide (0 ≤ r ∧ r ≤ wrap64 (b.tdiv 4)))))))
theorem pow_any (n : Int) (w : World) : Calls Tryz.prog 82 #[.int .i64 n] w fun e w' => e = .returned (.bool (powB n)) ∧ w = w' := by
  by_cases h : 0 < n
  · unfold powB
    rw [decide_eq_true h, Bool.true_and]
    go_enter Tryz.func82, Tryz.ntmps82
    go_wp2
    go_ret
    exact ⟨rfl, rfl⟩
  · unfold powB
    rw [decide_eq_false h, Bool.false_and]
    go_enter Tryz.func82, Tryz.ntmps82
    go_wp2
    go_ret
    exact ⟨rfl, rfl⟩
set_option maxHeartbeats 2000000 in
theorem right_any (b p z r : Int) (w : World) : Calls Tryz.prog 44 #[.agg #[.int .i64 b, .int .i64 p, .int .i64 z, .int .i64 r]] w fun e w' => e = .returned (.bool (rightB b p z r)) ∧ Below w.heap.size w w' := by
  have h1 := fun W => within_any b 16 256 W
  have h2 := fun W => within_any p 8 64 W
  have h3 := fun W => pow_any p W
  have h4 := fun W => within_any z 64 512 W
  have h5 := fun W => pow_any z W
  have h7 := fun W => within_any r 0 (wrap64 (b.tdiv 4)) W
  unfold rightB
  have e6 : ∃ b6, decide (1536 ≤ wrap64 (wrap64 (p - 2) * z)) = b6 ∧ (b6 = true → 1536 ≤ wrap64 (wrap64 (p - 2) * z)) ∧ (b6 = false → ¬ 1536 ≤ wrap64 (wrap64 (p - 2) * z)) := ⟨_, rfl, fun e => by simpa using e, fun e => by simpa using e⟩
  obtain ⟨b6, e6, e61, e62⟩ := e6
  rw [e6]
  clear e6
  generalize decide (16 ≤ b ∧ b ≤ 256) = b1 at *
  generalize decide (8 ≤ p ∧ p ≤ 64) = b2 at *
  generalize powB p = b3 at *
  generalize decide (64 ≤ z ∧ z ≤ 512) = b4 at *
  generalize powB z = b5 at *
  generalize decide (0 ≤ r ∧ r ≤ wrap64 (b.tdiv 4)) = b7 at *
  have M1 : Hid True := trivial
  have M2 : Hid True := trivial
  have M3 : Hid True := trivial
  have M4 : Hid True := trivial
  have fin : ∀ B : Bool, Below w.heap.size w (w.alloc (.cells #[.int .i64 b, .int .i64 p, .int .i64 z, .int .i64 r] 23)) := fun _ => below_new w _
  rcases Bool.eq_false_or_eq_true b1 with hb | hb
  rotate_left
  · subst hb
    go_enter Tryz.func44, Tryz.ntmps44
    go_wp2_with (first
      | (go_at_call 81; clear M1; go_must (refine (h1 _).mono ?_); rintro e w' ⟨rfl, rfl⟩)
      | (go_at_call 81; clear M2; go_must (refine (h2 _).mono ?_); rintro e w' ⟨rfl, rfl⟩)
      | (go_at_call 82; clear M4; go_must (refine (h3 _).mono ?_); rintro e w' ⟨rfl, rfl⟩)
      | (go_at_call 81; clear M3; go_must (refine (h4 _).mono ?_); rintro e w' ⟨rfl, rfl⟩)
      | (go_at_call 82; go_must (refine (h5 _).mono ?_); rintro e w' ⟨rfl, rfl⟩)
      | (go_at_call 81; go_must (refine (h7 _).mono ?_); rintro e w' ⟨rfl, rfl⟩))
    go_ret
    exact ⟨by simp, fin true⟩
  subst hb
  rcases Bool.eq_false_or_eq_true b2 with hb | hb
  rotate_left
  · subst hb
    go_enter Tryz.func44, Tryz.ntmps44
    go_wp2_with (first
      | (go_at_call 81; clear M1; go_must (refine (h1 _).mono ?_); rintro e w' ⟨rfl, rfl⟩)
      | (go_at_call 81; clear M2; go_must (refine (h2 _).mono ?_); rintro e w' ⟨rfl, rfl⟩)
      | (go_at_call 82; clear M4; go_must (refine (h3 _).mono ?_); rintro e w' ⟨rfl, rfl⟩)
      | (go_at_call 81; clear M3; go_must (refine (h4 _).mono ?_); rintro e w' ⟨rfl, rfl⟩)
      | (go_at_call 82; go_must (refine (h5 _).mono ?_); rintro e w' ⟨rfl, rfl⟩)
      | (go_at_call 81; go_must (refine (h7 _).mono ?_); rintro e w' ⟨rfl, rfl⟩))
    go_ret
    exact ⟨by simp, fin true⟩
  subst hb
  rcases Bool.eq_false_or_eq_true b3 with hb | hb
  rotate_left
  · subst hb
    go_enter Tryz.func44, Tryz.ntmps44
    go_wp2_with (first
      | (go_at_call 81; clear M1; go_must (refine (h1 _).mono ?_); rintro e w' ⟨rfl, rfl⟩)
      | (go_at_call 81; clear M2; go_must (refine (h2 _).mono ?_); rintro e w' ⟨rfl, rfl⟩)
      | (go_at_call 82; clear M4; go_must (refine (h3 _).mono ?_); rintro e w' ⟨rfl, rfl⟩)
      | (go_at_call 81; clear M3; go_must (refine (h4 _).mono ?_); rintro e w' ⟨rfl, rfl⟩)
      | (go_at_call 82; go_must (refine (h5 _).mono ?_); rintro e w' ⟨rfl, rfl⟩)
      | (go_at_call 81; go_must (refine (h7 _).mono ?_); rintro e w' ⟨rfl, rfl⟩))
    go_ret
    exact ⟨by simp, fin true⟩
  subst hb
  rcases Bool.eq_false_or_eq_true b4 with hb | hb
  rotate_left
  · subst hb
    go_enter Tryz.func44, Tryz.ntmps44
    go_wp2_with (first
      | (go_at_call 81; clear M1; go_must (refine (h1 _).mono ?_); rintro e w' ⟨rfl, rfl⟩)
      | (go_at_call 81; clear M2; go_must (refine (h2 _).mono ?_); rintro e w' ⟨rfl, rfl⟩)
      | (go_at_call 82; clear M4; go_must (refine (h3 _).mono ?_); rintro e w' ⟨rfl, rfl⟩)
      | (go_at_call 81; clear M3; go_must (refine (h4 _).mono ?_); rintro e w' ⟨rfl, rfl⟩)
      | (go_at_call 82; go_must (refine (h5 _).mono ?_); rintro e w' ⟨rfl, rfl⟩)
      | (go_at_call 81; go_must (refine (h7 _).mono ?_); rintro e w' ⟨rfl, rfl⟩))
    go_ret
    exact ⟨by simp, fin true⟩
  subst hb
  rcases Bool.eq_false_or_eq_true b5 with hb | hb
  rotate_left
  · subst hb
    go_enter Tryz.func44, Tryz.ntmps44
    go_wp2_with (first
      | (go_at_call 81; clear M1; go_must (refine (h1 _).mono ?_); rintro e w' ⟨rfl, rfl⟩)
      | (go_at_call 81; clear M2; go_must (refine (h2 _).mono ?_); rintro e w' ⟨rfl, rfl⟩)
      | (go_at_call 82; clear M4; go_must (refine (h3 _).mono ?_); rintro e w' ⟨rfl, rfl⟩)
      | (go_at_call 81; clear M3; go_must (refine (h4 _).mono ?_); rintro e w' ⟨rfl, rfl⟩)
      | (go_at_call 82; go_must (refine (h5 _).mono ?_); rintro e w' ⟨rfl, rfl⟩)
      | (go_at_call 81; go_must (refine (h7 _).mono ?_); rintro e w' ⟨rfl, rfl⟩))
    go_ret
    exact ⟨by simp, fin true⟩
  subst hb
  rcases Bool.eq_false_or_eq_true b6 with hb6 | hb6
  rotate_left
  · have hm := e62 hb6
    subst hb6
    clear e61 e62
    go_enter Tryz.func44, Tryz.ntmps44
    go_wp2_with (first
      | (go_at_call 81; clear M1; go_must (refine (h1 _).mono ?_); rintro e w' ⟨rfl, rfl⟩)
      | (go_at_call 81; clear M2; go_must (refine (h2 _).mono ?_); rintro e w' ⟨rfl, rfl⟩)
      | (go_at_call 82; clear M4; go_must (refine (h3 _).mono ?_); rintro e w' ⟨rfl, rfl⟩)
      | (go_at_call 81; clear M3; go_must (refine (h4 _).mono ?_); rintro e w' ⟨rfl, rfl⟩)
      | (go_at_call 82; go_must (refine (h5 _).mono ?_); rintro e w' ⟨rfl, rfl⟩)
      | (go_at_call 81; go_must (refine (h7 _).mono ?_); rintro e w' ⟨rfl, rfl⟩))
    go_ret
    exact ⟨by simp, fin true⟩
  have hm := e61 hb6
  subst hb6
  clear e61 e62
  go_enter Tryz.func44, Tryz.ntmps44
  go_wp2_with (first
      | (go_at_call 81; clear M1; go_must (refine (h1 _).mono ?_); rintro e w' ⟨rfl, rfl⟩)
      | (go_at_call 81; clear M2; go_must (refine (h2 _).mono ?_); rintro e w' ⟨rfl, rfl⟩)
      | (go_at_call 82; clear M4; go_must (refine (h3 _).mono ?_); rintro e w' ⟨rfl, rfl⟩)
      | (go_at_call 81; clear M3; go_must (refine (h4 _).mono ?_); rintro e w' ⟨rfl, rfl⟩)
      | (go_at_call 82; go_must (refine (h5 _).mono ?_); rintro e w' ⟨rfl, rfl⟩)
      | (go_at_call 81; go_must (refine (h7 _).mono ?_); rintro e w' ⟨rfl, rfl⟩))
  go_ret
  exact ⟨by simp, fin true⟩
end Go.Proofs.YtkfecngkdlajgaaGreatDoor
