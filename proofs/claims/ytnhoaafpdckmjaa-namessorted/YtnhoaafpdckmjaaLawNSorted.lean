/-
  Proved: the statement on the order of texts and on sorted lists (NamesSorted): for every three texts and every list of texts; no condition.
-/
import Derived.Test.YtnhoaafpdckmjaaNOrd
import Derived.Test.YtnhoaafpdckmjaaNArg
import Derived.BigQuiet
namespace Go.Proofs.Ytnhoaafpdckmjaa.namesSorted
open Go.ChangeShapes Go.WideShapes Go.ChangeAt Go.RowKit Go.Shelf M

/-- How many of the first k texts are x. -/
def cnt (x : ByteArray) (l : List ByteArray) (k : Nat) : Nat := ((l.take k).filter (fun y => decide (y = x))).length
theorem cnt_zero (x : ByteArray) (l : List ByteArray) : cnt x l 0 = 0 := rfl
theorem cnt_yes {x : ByteArray} {l : List ByteArray} {k : Nat} (h : l[k]? = some x) : cnt x l (k + 1) = cnt x l k + 1 := by
  unfold cnt; rw [List.take_add_one, h]; simp
theorem cnt_no {x y : ByteArray} {l : List ByteArray} {k : Nat} (h : l[k]? = some y) (hne : y ≠ x) : cnt x l (k + 1) = cnt x l k := by
  unfold cnt; rw [List.take_add_one, h]; simp [hne]
theorem cnt_le (x : ByteArray) (l : List ByteArray) (k : Nat) : cnt x l k ≤ k := by
  unfold cnt
  have h1 := List.length_filter_le (fun y => decide (y = x)) (l.take k)
  have h2 : (l.take k).length ≤ k := by simp; omega
  omega
theorem cnt_all {x : ByteArray} {l m : List ByteArray} {n : Nat} (h : l.Perm m) (h1 : n = l.length) (h2 : n = m.length) : cnt x l n = cnt x m n := by
  unfold cnt
  rw [h1, List.take_length, ← h1, h2, List.take_length]
  exact (h.filter _).length_eq
theorem order_at {l : List ByteArray} (h : inOrder l) {i : Nat} {x y : ByteArray} (hx : l[i + 1]? = some x) (hy : l[i]? = some y) : lt x y = false := by
  obtain ⟨h1, rfl⟩ := List.getElem?_eq_some_iff.1 hx
  obtain ⟨h2, rfl⟩ := List.getElem?_eq_some_iff.1 hy
  exact List.pairwise_iff_getElem.1 h i (i + 1) h2 h1 (by omega)
theorem row_at {w : World} {a : Option Addr} {l : List ByteArray} (h : SRow w a l) {k : Nat} (hk : k < l.length) : ∃ b off, a = some ⟨b, off, none⟩ ∧ ∀ i, i < l.length → w.cell? ⟨b, off + i, none⟩ = some (.string (l.getD i ByteArray.empty)) := by
  rcases h with rfl | h
  · simp at hk
  · exact h

theorem tl_ne {x y : ByteArray} (h : x ≠ y) : (x.toList == y.toList) = false := (Lib.bytes_beq_false_iff _ _).2 h

set_option maxRecDepth 100000 in
set_option maxHeartbeats 2000000 in
theorem walk_1 (a b c : ByteArray) (al : Option Addr) (n cap : Nat) (l : List ByteArray) (w : World) (wl : SArg w al n cap l) (sl : cap * 16 ≤ 140737488351232) (h1 : lt a b = true) (h2 : lt b a = false) (h3 : (a.toList == b.toList) = false) (h5 : lt b c = false) :
    Calls Try.prog 7 #[.string a, .string b, .string c, .slice al n cap] w fun e w' => e = .returned (.bool true) ∧ Below w.heap.size w w' := by
  have haa := lt_self a
  have hle := wl.le
  have hs := sort_any al n cap l w wl.len_eq (by omega) wl.row wl.nil
  have HWL : Hid (SArg w al n cap l) := wl
  have hn47 : n ≤ 8796093022208 := by omega
  clear wl sl
  go_enter Try.func7, Try.ntmps7
  go_wp2_with (first
    | (go_at_call 22; refine (less_any _ _ _).mono ?_; rintro e w' ⟨rfl, rfl⟩)
    | (go_at_call 24; go_must (refine hs.mono ?_); rintro e w2 ⟨a2, c2, rfl, hr2, hn2, hc2, hb2⟩))
  clear hs
  have HR2 : Hid (SRow w2 a2 (sorted l)) := hr2
  have HR1 : Hid (SRow w2 al l) := HWL.out.row.later hb2
  have HB2 : Hid (Below w.heap.size w w2) := hb2
  have HN1 : Hid (n = l.length) := HWL.out.len_eq
  have HN2 : Hid (n = (sorted l).length) := by rw [sorted_length]; exact HWL.out.len_eq
  have mixed := mixedT
  clear hr2 hb2
  go_loopw [10] (fun s10 wr => ∃ i q : Nat, i ≤ n ∧ s10 = .int .i64 i ∧ wr = w2.drewN q) (fun s10 _ => n - (intOf s10).toNat)
  case atStart => exact ⟨0, 0, by omega, rfl, rfl⟩
  case round =>
    obtain ⟨i, q, hi, rfl, rfl⟩ := hrel
    by_cases hlt : i < n
    · obtain ⟨b1, o1, rfl, hc1⟩ := row_at HR1.out (k := i) (by have := HN1.out; omega)
      obtain ⟨b2, o2, rfl, hc2⟩ := row_at HR2.out (k := i) (by have := HN2.out; omega)
      have HC1 : Hid (∀ i, i < l.length → w2.cell? ⟨b1, o1 + i, none⟩ = some (.string (l.getD i ByteArray.empty))) := hc1
      have HC2 : Hid (∀ i, i < (sorted l).length → w2.cell? ⟨b2, o2 + i, none⟩ = some (.string ((sorted l).getD i ByteArray.empty))) := hc2
      have gx := hc1 i (by have := HN1.out; omega)
      clear hc1 hc2
      generalize hxx : l.getD i ByteArray.empty = x at gx
      clear hxx
      go_wp2
      go_loopw [11, 12, 13] (fun s11 s12 s13 wr => ∃ k q1 : Nat, k ≤ n ∧ s13 = .int .i64 k ∧ s11 = .int .i64 (cnt x l k) ∧ s12 = .int .i64 (cnt x (sorted l) k) ∧ wr = w2.drewN q1) (fun _ _ s13 _ => n - (intOf s13).toNat)
      case atStart => exact ⟨0, q, by omega, rfl, rfl, rfl, rfl⟩
      case round =>
        obtain ⟨k, q1, hk, rfl, rfl, rfl, rfl⟩ := hrel
        by_cases hlt2 : k < n
        · have gy := HC1.out k (by have := HN1.out; omega)
          have gz := HC2.out k (by have := HN2.out; omega)
          have HY := getD_lt (l := l) (k := k) (by have := HN1.out; omega)
          have HZ := getD_lt (l := sorted l) (k := k) (by have := HN2.out; omega)
          generalize l.getD k ByteArray.empty = y at gy HY
          generalize (sorted l).getD k ByteArray.empty = z at gz HZ
          have HYH : Hid (l[k]? = some y) := HY
          have HZH : Hid ((sorted l)[k]? = some z) := HZ
          clear HY HZ
          obtain ⟨p, hp⟩ : ∃ p, p = cnt x l k := ⟨_, rfl⟩
          obtain ⟨r, hr⟩ : ∃ r, r = cnt x (sorted l) k := ⟨_, rfl⟩
          have hp2 : p ≤ k := by rw [hp]; exact cnt_le _ _ _
          have hr2 : r ≤ k := by rw [hr]; exact cnt_le _ _ _
          rw [← hp, ← hr]
          have HP : Hid (p = cnt x l k) := hp
          have HRR : Hid (r = cnt x (sorted l) k) := hr
          clear hp hr
          by_cases hy : y = x
          · subst hy
            by_cases hz : z = y
            · subst hz
              go_wp2_with fail
              go_region_o
              go_wp2_with fail
              go_region_o
              go_wp2
              go_roundw
              case rel => exact ⟨k + 1, _, by omega, by go_num, by rw [cnt_yes HYH.out, ← HP.out]; go_num, by rw [cnt_yes HZH.out, ← HRR.out]; go_num, rfl⟩
              case measure => simp [intOf]; omega
            · have hz' := tl_ne hz
              go_wp2_with fail
              go_region_o
              go_wp2_with fail
              go_region_o
              go_wp2
              go_roundw
              case rel => exact ⟨k + 1, _, by omega, by go_num, by rw [cnt_yes HYH.out, ← HP.out]; go_num, by rw [cnt_no HZH.out hz, ← HRR.out], rfl⟩
              case measure => simp [intOf]; omega
          · have hy' := tl_ne hy
            by_cases hz : z = x
            · subst hz
              go_wp2_with fail
              go_region_o
              go_wp2_with fail
              go_region_o
              go_wp2
              go_roundw
              case rel => exact ⟨k + 1, _, by omega, by go_num, by rw [cnt_no HYH.out hy, ← HP.out], by rw [cnt_yes HZH.out, ← HRR.out]; go_num, rfl⟩
              case measure => simp [intOf]; omega
            · have hz' := tl_ne hz
              go_wp2_with fail
              go_region_o
              go_wp2_with fail
              go_region_o
              go_wp2
              go_roundw
              case rel => exact ⟨k + 1, _, by omega, by go_num, by rw [cnt_no HYH.out hy, ← HP.out], by rw [cnt_no HZH.out hz, ← HRR.out], rfl⟩
              case measure => simp [intOf]; omega
        · have hkn : k = n := by omega
          subst hkn
          have hcnt : cnt x (sorted l) k = cnt x l k := cnt_all (sorted_perm l) HN2.out HN1.out
          rw [hcnt]
          generalize cnt x l k = C
          clear hcnt
          rcases i with _ | j
          · go_wp2
            go_quiet (first | (go_at_call 22; exact (less_any _ _ _).mono (fun _ _ h => ⟨h.1, _, h.2.symm⟩)))
            go_wp2
            go_roundw
            case rel => exact ⟨0 + 1, _, by omega, by go_num, rfl⟩
            case measure => simp [intOf]; omega
          · have gu := HC2.out (j + 1) (by have := HN2.out; omega)
            have gv := HC2.out j (by have := HN2.out; omega)
            have HU := getD_lt (l := sorted l) (k := j + 1) (by have := HN2.out; omega)
            have HV := getD_lt (l := sorted l) (k := j) (by have := HN2.out; omega)
            generalize (sorted l).getD (j + 1) ByteArray.empty = u at gu HU
            generalize (sorted l).getD j ByteArray.empty = v at gv HV
            have huv := order_at (sorted_order l) HU HV
            clear HU HV
            have hj1 : ((j : Int) + 1 - 1) = (j : Int) := by omega
            have hj0 : (0 : Int) < (j : Int) + 1 := by omega
            go_wp2
            go_quiet (first | (go_at_call 22; exact (less_any _ _ _).mono (fun _ _ h => ⟨h.1, _, h.2.symm⟩)))
            go_wp2
            go_roundw
            case rel => exact ⟨j + 1 + 1, _, by omega, by go_num, rfl⟩
            case measure => simp [intOf]; omega
    · go_wp2_with (go_at_call 14; refine (alive_any _).mono ?_; rintro e w6 ⟨rfl, hb6⟩)
      go_ret
      exact ⟨rfl, Below.after (Below.after HB2.out (below_drawn w2 q)) hb6⟩

set_option maxRecDepth 100000 in
set_option maxHeartbeats 2000000 in
theorem walk_2 (a b c : ByteArray) (al : Option Addr) (n cap : Nat) (l : List ByteArray) (w : World) (wl : SArg w al n cap l) (sl : cap * 16 ≤ 140737488351232) (h1 : lt a b = true) (h2 : lt b a = false) (h3 : (a.toList == b.toList) = false) (h5 : lt b c = true) (h6 : lt a c = true) :
    Calls Try.prog 7 #[.string a, .string b, .string c, .slice al n cap] w fun e w' => e = .returned (.bool true) ∧ Below w.heap.size w w' := by
  have haa := lt_self a
  have hle := wl.le
  have hs := sort_any al n cap l w wl.len_eq (by omega) wl.row wl.nil
  have HWL : Hid (SArg w al n cap l) := wl
  have hn47 : n ≤ 8796093022208 := by omega
  clear wl sl
  go_enter Try.func7, Try.ntmps7
  go_wp2_with (first
    | (go_at_call 22; refine (less_any _ _ _).mono ?_; rintro e w' ⟨rfl, rfl⟩)
    | (go_at_call 24; go_must (refine hs.mono ?_); rintro e w2 ⟨a2, c2, rfl, hr2, hn2, hc2, hb2⟩))
  clear hs
  have HR2 : Hid (SRow w2 a2 (sorted l)) := hr2
  have HR1 : Hid (SRow w2 al l) := HWL.out.row.later hb2
  have HB2 : Hid (Below w.heap.size w w2) := hb2
  have HN1 : Hid (n = l.length) := HWL.out.len_eq
  have HN2 : Hid (n = (sorted l).length) := by rw [sorted_length]; exact HWL.out.len_eq
  have mixed := mixedT
  clear hr2 hb2
  go_loopw [10] (fun s10 wr => ∃ i q : Nat, i ≤ n ∧ s10 = .int .i64 i ∧ wr = w2.drewN q) (fun s10 _ => n - (intOf s10).toNat)
  case atStart => exact ⟨0, 0, by omega, rfl, rfl⟩
  case round =>
    obtain ⟨i, q, hi, rfl, rfl⟩ := hrel
    by_cases hlt : i < n
    · obtain ⟨b1, o1, rfl, hc1⟩ := row_at HR1.out (k := i) (by have := HN1.out; omega)
      obtain ⟨b2, o2, rfl, hc2⟩ := row_at HR2.out (k := i) (by have := HN2.out; omega)
      have HC1 : Hid (∀ i, i < l.length → w2.cell? ⟨b1, o1 + i, none⟩ = some (.string (l.getD i ByteArray.empty))) := hc1
      have HC2 : Hid (∀ i, i < (sorted l).length → w2.cell? ⟨b2, o2 + i, none⟩ = some (.string ((sorted l).getD i ByteArray.empty))) := hc2
      have gx := hc1 i (by have := HN1.out; omega)
      clear hc1 hc2
      generalize hxx : l.getD i ByteArray.empty = x at gx
      clear hxx
      go_wp2
      go_loopw [11, 12, 13] (fun s11 s12 s13 wr => ∃ k q1 : Nat, k ≤ n ∧ s13 = .int .i64 k ∧ s11 = .int .i64 (cnt x l k) ∧ s12 = .int .i64 (cnt x (sorted l) k) ∧ wr = w2.drewN q1) (fun _ _ s13 _ => n - (intOf s13).toNat)
      case atStart => exact ⟨0, q, by omega, rfl, rfl, rfl, rfl⟩
      case round =>
        obtain ⟨k, q1, hk, rfl, rfl, rfl, rfl⟩ := hrel
        by_cases hlt2 : k < n
        · have gy := HC1.out k (by have := HN1.out; omega)
          have gz := HC2.out k (by have := HN2.out; omega)
          have HY := getD_lt (l := l) (k := k) (by have := HN1.out; omega)
          have HZ := getD_lt (l := sorted l) (k := k) (by have := HN2.out; omega)
          generalize l.getD k ByteArray.empty = y at gy HY
          generalize (sorted l).getD k ByteArray.empty = z at gz HZ
          have HYH : Hid (l[k]? = some y) := HY
          have HZH : Hid ((sorted l)[k]? = some z) := HZ
          clear HY HZ
          obtain ⟨p, hp⟩ : ∃ p, p = cnt x l k := ⟨_, rfl⟩
          obtain ⟨r, hr⟩ : ∃ r, r = cnt x (sorted l) k := ⟨_, rfl⟩
          have hp2 : p ≤ k := by rw [hp]; exact cnt_le _ _ _
          have hr2 : r ≤ k := by rw [hr]; exact cnt_le _ _ _
          rw [← hp, ← hr]
          have HP : Hid (p = cnt x l k) := hp
          have HRR : Hid (r = cnt x (sorted l) k) := hr
          clear hp hr
          by_cases hy : y = x
          · subst hy
            by_cases hz : z = y
            · subst hz
              go_wp2_with fail
              go_region_o
              go_wp2_with fail
              go_region_o
              go_wp2
              go_roundw
              case rel => exact ⟨k + 1, _, by omega, by go_num, by rw [cnt_yes HYH.out, ← HP.out]; go_num, by rw [cnt_yes HZH.out, ← HRR.out]; go_num, rfl⟩
              case measure => simp [intOf]; omega
            · have hz' := tl_ne hz
              go_wp2_with fail
              go_region_o
              go_wp2_with fail
              go_region_o
              go_wp2
              go_roundw
              case rel => exact ⟨k + 1, _, by omega, by go_num, by rw [cnt_yes HYH.out, ← HP.out]; go_num, by rw [cnt_no HZH.out hz, ← HRR.out], rfl⟩
              case measure => simp [intOf]; omega
          · have hy' := tl_ne hy
            by_cases hz : z = x
            · subst hz
              go_wp2_with fail
              go_region_o
              go_wp2_with fail
              go_region_o
              go_wp2
              go_roundw
              case rel => exact ⟨k + 1, _, by omega, by go_num, by rw [cnt_no HYH.out hy, ← HP.out], by rw [cnt_yes HZH.out, ← HRR.out]; go_num, rfl⟩
              case measure => simp [intOf]; omega
            · have hz' := tl_ne hz
              go_wp2_with fail
              go_region_o
              go_wp2_with fail
              go_region_o
              go_wp2
              go_roundw
              case rel => exact ⟨k + 1, _, by omega, by go_num, by rw [cnt_no HYH.out hy, ← HP.out], by rw [cnt_no HZH.out hz, ← HRR.out], rfl⟩
              case measure => simp [intOf]; omega
        · have hkn : k = n := by omega
          subst hkn
          have hcnt : cnt x (sorted l) k = cnt x l k := cnt_all (sorted_perm l) HN2.out HN1.out
          rw [hcnt]
          generalize cnt x l k = C
          clear hcnt
          rcases i with _ | j
          · go_wp2
            go_quiet (first | (go_at_call 22; exact (less_any _ _ _).mono (fun _ _ h => ⟨h.1, _, h.2.symm⟩)))
            go_wp2
            go_roundw
            case rel => exact ⟨0 + 1, _, by omega, by go_num, rfl⟩
            case measure => simp [intOf]; omega
          · have gu := HC2.out (j + 1) (by have := HN2.out; omega)
            have gv := HC2.out j (by have := HN2.out; omega)
            have HU := getD_lt (l := sorted l) (k := j + 1) (by have := HN2.out; omega)
            have HV := getD_lt (l := sorted l) (k := j) (by have := HN2.out; omega)
            generalize (sorted l).getD (j + 1) ByteArray.empty = u at gu HU
            generalize (sorted l).getD j ByteArray.empty = v at gv HV
            have huv := order_at (sorted_order l) HU HV
            clear HU HV
            have hj1 : ((j : Int) + 1 - 1) = (j : Int) := by omega
            have hj0 : (0 : Int) < (j : Int) + 1 := by omega
            go_wp2
            go_quiet (first | (go_at_call 22; exact (less_any _ _ _).mono (fun _ _ h => ⟨h.1, _, h.2.symm⟩)))
            go_wp2
            go_roundw
            case rel => exact ⟨j + 1 + 1, _, by omega, by go_num, rfl⟩
            case measure => simp [intOf]; omega
    · go_wp2_with (go_at_call 14; refine (alive_any _).mono ?_; rintro e w6 ⟨rfl, hb6⟩)
      go_ret
      exact ⟨rfl, Below.after (Below.after HB2.out (below_drawn w2 q)) hb6⟩

set_option maxRecDepth 100000 in
set_option maxHeartbeats 2000000 in
theorem walk_3 (a b c : ByteArray) (al : Option Addr) (n cap : Nat) (l : List ByteArray) (w : World) (wl : SArg w al n cap l) (sl : cap * 16 ≤ 140737488351232) (h1 : lt a b = false) (h2 : lt b a = true) (h3 : (a.toList == b.toList) = false) :
    Calls Try.prog 7 #[.string a, .string b, .string c, .slice al n cap] w fun e w' => e = .returned (.bool true) ∧ Below w.heap.size w w' := by
  have haa := lt_self a
  have hle := wl.le
  have hs := sort_any al n cap l w wl.len_eq (by omega) wl.row wl.nil
  have HWL : Hid (SArg w al n cap l) := wl
  have hn47 : n ≤ 8796093022208 := by omega
  clear wl sl
  go_enter Try.func7, Try.ntmps7
  go_wp2_with (first
    | (go_at_call 22; refine (less_any _ _ _).mono ?_; rintro e w' ⟨rfl, rfl⟩)
    | (go_at_call 24; go_must (refine hs.mono ?_); rintro e w2 ⟨a2, c2, rfl, hr2, hn2, hc2, hb2⟩))
  clear hs
  have HR2 : Hid (SRow w2 a2 (sorted l)) := hr2
  have HR1 : Hid (SRow w2 al l) := HWL.out.row.later hb2
  have HB2 : Hid (Below w.heap.size w w2) := hb2
  have HN1 : Hid (n = l.length) := HWL.out.len_eq
  have HN2 : Hid (n = (sorted l).length) := by rw [sorted_length]; exact HWL.out.len_eq
  have mixed := mixedT
  clear hr2 hb2
  go_loopw [10] (fun s10 wr => ∃ i q : Nat, i ≤ n ∧ s10 = .int .i64 i ∧ wr = w2.drewN q) (fun s10 _ => n - (intOf s10).toNat)
  case atStart => exact ⟨0, 0, by omega, rfl, rfl⟩
  case round =>
    obtain ⟨i, q, hi, rfl, rfl⟩ := hrel
    by_cases hlt : i < n
    · obtain ⟨b1, o1, rfl, hc1⟩ := row_at HR1.out (k := i) (by have := HN1.out; omega)
      obtain ⟨b2, o2, rfl, hc2⟩ := row_at HR2.out (k := i) (by have := HN2.out; omega)
      have HC1 : Hid (∀ i, i < l.length → w2.cell? ⟨b1, o1 + i, none⟩ = some (.string (l.getD i ByteArray.empty))) := hc1
      have HC2 : Hid (∀ i, i < (sorted l).length → w2.cell? ⟨b2, o2 + i, none⟩ = some (.string ((sorted l).getD i ByteArray.empty))) := hc2
      have gx := hc1 i (by have := HN1.out; omega)
      clear hc1 hc2
      generalize hxx : l.getD i ByteArray.empty = x at gx
      clear hxx
      go_wp2
      go_loopw [11, 12, 13] (fun s11 s12 s13 wr => ∃ k q1 : Nat, k ≤ n ∧ s13 = .int .i64 k ∧ s11 = .int .i64 (cnt x l k) ∧ s12 = .int .i64 (cnt x (sorted l) k) ∧ wr = w2.drewN q1) (fun _ _ s13 _ => n - (intOf s13).toNat)
      case atStart => exact ⟨0, q, by omega, rfl, rfl, rfl, rfl⟩
      case round =>
        obtain ⟨k, q1, hk, rfl, rfl, rfl, rfl⟩ := hrel
        by_cases hlt2 : k < n
        · have gy := HC1.out k (by have := HN1.out; omega)
          have gz := HC2.out k (by have := HN2.out; omega)
          have HY := getD_lt (l := l) (k := k) (by have := HN1.out; omega)
          have HZ := getD_lt (l := sorted l) (k := k) (by have := HN2.out; omega)
          generalize l.getD k ByteArray.empty = y at gy HY
          generalize (sorted l).getD k ByteArray.empty = z at gz HZ
          have HYH : Hid (l[k]? = some y) := HY
          have HZH : Hid ((sorted l)[k]? = some z) := HZ
          clear HY HZ
          obtain ⟨p, hp⟩ : ∃ p, p = cnt x l k := ⟨_, rfl⟩
          obtain ⟨r, hr⟩ : ∃ r, r = cnt x (sorted l) k := ⟨_, rfl⟩
          have hp2 : p ≤ k := by rw [hp]; exact cnt_le _ _ _
          have hr2 : r ≤ k := by rw [hr]; exact cnt_le _ _ _
          rw [← hp, ← hr]
          have HP : Hid (p = cnt x l k) := hp
          have HRR : Hid (r = cnt x (sorted l) k) := hr
          clear hp hr
          by_cases hy : y = x
          · subst hy
            by_cases hz : z = y
            · subst hz
              go_wp2_with fail
              go_region_o
              go_wp2_with fail
              go_region_o
              go_wp2
              go_roundw
              case rel => exact ⟨k + 1, _, by omega, by go_num, by rw [cnt_yes HYH.out, ← HP.out]; go_num, by rw [cnt_yes HZH.out, ← HRR.out]; go_num, rfl⟩
              case measure => simp [intOf]; omega
            · have hz' := tl_ne hz
              go_wp2_with fail
              go_region_o
              go_wp2_with fail
              go_region_o
              go_wp2
              go_roundw
              case rel => exact ⟨k + 1, _, by omega, by go_num, by rw [cnt_yes HYH.out, ← HP.out]; go_num, by rw [cnt_no HZH.out hz, ← HRR.out], rfl⟩
              case measure => simp [intOf]; omega
          · have hy' := tl_ne hy
            by_cases hz : z = x
            · subst hz
              go_wp2_with fail
              go_region_o
              go_wp2_with fail
              go_region_o
              go_wp2
              go_roundw
              case rel => exact ⟨k + 1, _, by omega, by go_num, by rw [cnt_no HYH.out hy, ← HP.out], by rw [cnt_yes HZH.out, ← HRR.out]; go_num, rfl⟩
              case measure => simp [intOf]; omega
            · have hz' := tl_ne hz
              go_wp2_with fail
              go_region_o
              go_wp2_with fail
              go_region_o
              go_wp2
              go_roundw
              case rel => exact ⟨k + 1, _, by omega, by go_num, by rw [cnt_no HYH.out hy, ← HP.out], by rw [cnt_no HZH.out hz, ← HRR.out], rfl⟩
              case measure => simp [intOf]; omega
        · have hkn : k = n := by omega
          subst hkn
          have hcnt : cnt x (sorted l) k = cnt x l k := cnt_all (sorted_perm l) HN2.out HN1.out
          rw [hcnt]
          generalize cnt x l k = C
          clear hcnt
          rcases i with _ | j
          · go_wp2
            go_quiet (first | (go_at_call 22; exact (less_any _ _ _).mono (fun _ _ h => ⟨h.1, _, h.2.symm⟩)))
            go_wp2
            go_roundw
            case rel => exact ⟨0 + 1, _, by omega, by go_num, rfl⟩
            case measure => simp [intOf]; omega
          · have gu := HC2.out (j + 1) (by have := HN2.out; omega)
            have gv := HC2.out j (by have := HN2.out; omega)
            have HU := getD_lt (l := sorted l) (k := j + 1) (by have := HN2.out; omega)
            have HV := getD_lt (l := sorted l) (k := j) (by have := HN2.out; omega)
            generalize (sorted l).getD (j + 1) ByteArray.empty = u at gu HU
            generalize (sorted l).getD j ByteArray.empty = v at gv HV
            have huv := order_at (sorted_order l) HU HV
            clear HU HV
            have hj1 : ((j : Int) + 1 - 1) = (j : Int) := by omega
            have hj0 : (0 : Int) < (j : Int) + 1 := by omega
            go_wp2
            go_quiet (first | (go_at_call 22; exact (less_any _ _ _).mono (fun _ _ h => ⟨h.1, _, h.2.symm⟩)))
            go_wp2
            go_roundw
            case rel => exact ⟨j + 1 + 1, _, by omega, by go_num, rfl⟩
            case measure => simp [intOf]; omega
    · go_wp2_with (go_at_call 14; refine (alive_any _).mono ?_; rintro e w6 ⟨rfl, hb6⟩)
      go_ret
      exact ⟨rfl, Below.after (Below.after HB2.out (below_drawn w2 q)) hb6⟩

set_option maxRecDepth 100000 in
set_option maxHeartbeats 2000000 in
theorem walk_4 (a b c : ByteArray) (al : Option Addr) (n cap : Nat) (l : List ByteArray) (w : World) (wl : SArg w al n cap l) (sl : cap * 16 ≤ 140737488351232) (h1 : lt a b = false) (_ : lt b a = false) (h3 : (a.toList == b.toList) = true) :
    Calls Try.prog 7 #[.string a, .string b, .string c, .slice al n cap] w fun e w' => e = .returned (.bool true) ∧ Below w.heap.size w w' := by
  have haa := lt_self a
  have hle := wl.le
  have hs := sort_any al n cap l w wl.len_eq (by omega) wl.row wl.nil
  have HWL : Hid (SArg w al n cap l) := wl
  have hn47 : n ≤ 8796093022208 := by omega
  clear wl sl
  go_enter Try.func7, Try.ntmps7
  go_wp2_with (first
    | (go_at_call 22; refine (less_any _ _ _).mono ?_; rintro e w' ⟨rfl, rfl⟩)
    | (go_at_call 24; go_must (refine hs.mono ?_); rintro e w2 ⟨a2, c2, rfl, hr2, hn2, hc2, hb2⟩))
  clear hs
  have HR2 : Hid (SRow w2 a2 (sorted l)) := hr2
  have HR1 : Hid (SRow w2 al l) := HWL.out.row.later hb2
  have HB2 : Hid (Below w.heap.size w w2) := hb2
  have HN1 : Hid (n = l.length) := HWL.out.len_eq
  have HN2 : Hid (n = (sorted l).length) := by rw [sorted_length]; exact HWL.out.len_eq
  have mixed := mixedT
  clear hr2 hb2
  go_loopw [10] (fun s10 wr => ∃ i q : Nat, i ≤ n ∧ s10 = .int .i64 i ∧ wr = w2.drewN q) (fun s10 _ => n - (intOf s10).toNat)
  case atStart => exact ⟨0, 0, by omega, rfl, rfl⟩
  case round =>
    obtain ⟨i, q, hi, rfl, rfl⟩ := hrel
    by_cases hlt : i < n
    · obtain ⟨b1, o1, rfl, hc1⟩ := row_at HR1.out (k := i) (by have := HN1.out; omega)
      obtain ⟨b2, o2, rfl, hc2⟩ := row_at HR2.out (k := i) (by have := HN2.out; omega)
      have HC1 : Hid (∀ i, i < l.length → w2.cell? ⟨b1, o1 + i, none⟩ = some (.string (l.getD i ByteArray.empty))) := hc1
      have HC2 : Hid (∀ i, i < (sorted l).length → w2.cell? ⟨b2, o2 + i, none⟩ = some (.string ((sorted l).getD i ByteArray.empty))) := hc2
      have gx := hc1 i (by have := HN1.out; omega)
      clear hc1 hc2
      generalize hxx : l.getD i ByteArray.empty = x at gx
      clear hxx
      go_wp2
      go_loopw [11, 12, 13] (fun s11 s12 s13 wr => ∃ k q1 : Nat, k ≤ n ∧ s13 = .int .i64 k ∧ s11 = .int .i64 (cnt x l k) ∧ s12 = .int .i64 (cnt x (sorted l) k) ∧ wr = w2.drewN q1) (fun _ _ s13 _ => n - (intOf s13).toNat)
      case atStart => exact ⟨0, q, by omega, rfl, rfl, rfl, rfl⟩
      case round =>
        obtain ⟨k, q1, hk, rfl, rfl, rfl, rfl⟩ := hrel
        by_cases hlt2 : k < n
        · have gy := HC1.out k (by have := HN1.out; omega)
          have gz := HC2.out k (by have := HN2.out; omega)
          have HY := getD_lt (l := l) (k := k) (by have := HN1.out; omega)
          have HZ := getD_lt (l := sorted l) (k := k) (by have := HN2.out; omega)
          generalize l.getD k ByteArray.empty = y at gy HY
          generalize (sorted l).getD k ByteArray.empty = z at gz HZ
          have HYH : Hid (l[k]? = some y) := HY
          have HZH : Hid ((sorted l)[k]? = some z) := HZ
          clear HY HZ
          obtain ⟨p, hp⟩ : ∃ p, p = cnt x l k := ⟨_, rfl⟩
          obtain ⟨r, hr⟩ : ∃ r, r = cnt x (sorted l) k := ⟨_, rfl⟩
          have hp2 : p ≤ k := by rw [hp]; exact cnt_le _ _ _
          have hr2 : r ≤ k := by rw [hr]; exact cnt_le _ _ _
          rw [← hp, ← hr]
          have HP : Hid (p = cnt x l k) := hp
          have HRR : Hid (r = cnt x (sorted l) k) := hr
          clear hp hr
          by_cases hy : y = x
          · subst hy
            by_cases hz : z = y
            · subst hz
              go_wp2_with fail
              go_region_o
              go_wp2_with fail
              go_region_o
              go_wp2
              go_roundw
              case rel => exact ⟨k + 1, _, by omega, by go_num, by rw [cnt_yes HYH.out, ← HP.out]; go_num, by rw [cnt_yes HZH.out, ← HRR.out]; go_num, rfl⟩
              case measure => simp [intOf]; omega
            · have hz' := tl_ne hz
              go_wp2_with fail
              go_region_o
              go_wp2_with fail
              go_region_o
              go_wp2
              go_roundw
              case rel => exact ⟨k + 1, _, by omega, by go_num, by rw [cnt_yes HYH.out, ← HP.out]; go_num, by rw [cnt_no HZH.out hz, ← HRR.out], rfl⟩
              case measure => simp [intOf]; omega
          · have hy' := tl_ne hy
            by_cases hz : z = x
            · subst hz
              go_wp2_with fail
              go_region_o
              go_wp2_with fail
              go_region_o
              go_wp2
              go_roundw
              case rel => exact ⟨k + 1, _, by omega, by go_num, by rw [cnt_no HYH.out hy, ← HP.out], by rw [cnt_yes HZH.out, ← HRR.out]; go_num, rfl⟩
              case measure => simp [intOf]; omega
            · have hz' := tl_ne hz
              go_wp2_with fail
              go_region_o
              go_wp2_with fail
              go_region_o
              go_wp2
              go_roundw
              case rel => exact ⟨k + 1, _, by omega, by go_num, by rw [cnt_no HYH.out hy, ← HP.out], by rw [cnt_no HZH.out hz, ← HRR.out], rfl⟩
              case measure => simp [intOf]; omega
        · have hkn : k = n := by omega
          subst hkn
          have hcnt : cnt x (sorted l) k = cnt x l k := cnt_all (sorted_perm l) HN2.out HN1.out
          rw [hcnt]
          generalize cnt x l k = C
          clear hcnt
          rcases i with _ | j
          · go_wp2
            go_quiet (first | (go_at_call 22; exact (less_any _ _ _).mono (fun _ _ h => ⟨h.1, _, h.2.symm⟩)))
            go_wp2
            go_roundw
            case rel => exact ⟨0 + 1, _, by omega, by go_num, rfl⟩
            case measure => simp [intOf]; omega
          · have gu := HC2.out (j + 1) (by have := HN2.out; omega)
            have gv := HC2.out j (by have := HN2.out; omega)
            have HU := getD_lt (l := sorted l) (k := j + 1) (by have := HN2.out; omega)
            have HV := getD_lt (l := sorted l) (k := j) (by have := HN2.out; omega)
            generalize (sorted l).getD (j + 1) ByteArray.empty = u at gu HU
            generalize (sorted l).getD j ByteArray.empty = v at gv HV
            have huv := order_at (sorted_order l) HU HV
            clear HU HV
            have hj1 : ((j : Int) + 1 - 1) = (j : Int) := by omega
            have hj0 : (0 : Int) < (j : Int) + 1 := by omega
            go_wp2
            go_quiet (first | (go_at_call 22; exact (less_any _ _ _).mono (fun _ _ h => ⟨h.1, _, h.2.symm⟩)))
            go_wp2
            go_roundw
            case rel => exact ⟨j + 1 + 1, _, by omega, by go_num, rfl⟩
            case measure => simp [intOf]; omega
    · go_wp2_with (go_at_call 14; refine (alive_any _).mono ?_; rintro e w6 ⟨rfl, hb6⟩)
      go_ret
      exact ⟨rfl, Below.after (Below.after HB2.out (below_drawn w2 q)) hb6⟩

theorem walk (a b c : ByteArray) (al : Option Addr) (n cap : Nat) (l : List ByteArray) (w : World) (_ : a.size ≤ maxLen) (_ : b.size ≤ maxLen) (_ : c.size ≤ maxLen) (wl : SArg w al n cap l) (sl : cap * 16 ≤ 140737488351232) :
    Calls Try.prog 7 #[.string a, .string b, .string c, .slice al n cap] w fun e w' => e = .returned (.bool true) ∧ Below w.heap.size w w' := by
  by_cases h : a = b
  · subst h
    exact walk_4 a a c al n cap l w wl sl (lt_self a) (lt_self a) (by simp)
  · rcases lt_total h with h1 | h1
    · cases h5 : lt b c with
      | false => exact walk_1 a b c al n cap l w wl sl h1 (lt_asymm h1) (tl_ne h) h5
      | true => exact walk_2 a b c al n cap l w wl sl h1 (lt_asymm h1) (tl_ne h) h5 (lt_trans h1 h5)
    · exact walk_3 a b c al n cap l w wl sl (lt_asymm h1) h1 (tl_ne h)

set_option maxRecDepth 100000 in
theorem lifted (os : Os) (started : os.Started) (H : Type) (enc : TypeId × Value → H) :
    ReturnsInHanded {} Try.checked os 7 .any (Rows.namesSortedSpec.pre6 enc Try.prog Try.f7 Rows.namesSortedRow.domain false) (Rows.namesSortedSpec.post enc Try.prog Try.f7 false true false false) := by
  refine returnsInHanded_of_change_sized (C := Try.checked) own started (by kernel_rfl) Try.func7
    (ChangeSpec.witness6 (enc := enc) (C := Try.checked) false ⟨#[], #[.string ⟨#[]⟩, .string ⟨#[]⟩, .string ⟨#[]⟩, .slice none 0 0], []⟩ 8 (by kernel_rfl) (by kernel_rfl) (by kernel_rfl) (by kernel_rfl)) ?_
  intro W base args ds gs before hval0 hW hcnd hsz0 _
  have hval : ∀ (j : Nat) t v, Try.f7.params[j]? = some t → args[j]? = some v → Value.okWide Try.prog W .any base t v := hval0
  have hsz : (DataW.weightsEach Try.prog (Try.f7.params.toList ++ Rows.namesSortedSpec.plain.varTypes Try.prog) (ds ++ gs)).all (· ≤ reachBytes) = true := hsz0
  have hW' := hW
  obtain ⟨p, q, hA0, hV, rfl, hfz, hnd⟩ := hW
  have hA : DataW.TrodAll enc Try.prog W 0 (fun _ => true) true Try.f7.params.toList args.toList ds p := hA0
  rw [Try.params7] at hA hval hsz
  obtain ⟨v0, vs0, d0, ds0, p0, q0, hargs, rfl, rfl, h0, r0⟩ := trodAll_cons hA
  obtain ⟨v1, vs1, d1, ds1, p1, q1, rfl, rfl, rfl, h1, r1⟩ := trodAll_cons r0
  obtain ⟨v2, vs2, d2, ds2, p2, q2, rfl, rfl, rfl, h2, r2⟩ := trodAll_cons r1
  obtain ⟨v3, vs3, d3, ds3, p3, q3, rfl, rfl, rfl, h3, r3⟩ := trodAll_cons r2
  obtain ⟨rfl, rfl, rfl⟩ := trodAll_nil r3
  obtain rfl : args = #[v0, v1, v2, v3] := by cases args; simp_all
  obtain ⟨rfl, rfl⟩ := trodVars_none hV
  obtain ⟨a0, rfl, rfl, rfl, w0⟩ := Go.ChangeMaps.open_string Try.underlying9 (hval 0 9 v0 rfl rfl) h0
  obtain ⟨a1, rfl, rfl, rfl, w1⟩ := Go.ChangeMaps.open_string Try.underlying9 (hval 1 9 v1 rfl rfl) h1
  obtain ⟨a2, rfl, rfl, rfl, w2⟩ := Go.ChangeMaps.open_string Try.underlying9 (hval 2 9 v2 rfl rfl) h2
  obtain ⟨a3, len3, cap3, rfl⟩ := okWide_slice Try.underlying22 (hval 3 22 v3 rfl rfl)
  have k3 := h3
  have lt3 : ∀ x ∈ p3, x.block < W.heap.size := by obtain ⟨m, hm⟩ := k3; exact DataW.trod_lt m _ _ _ hm
  obtain ⟨l3, w3, s3⟩ : ∃ l, SArg W a3 len3 cap3 l ∧ cap3 * 16 ≤ 140737488351232 := by
    obtain ⟨fuel, hf⟩ := h3
    obtain ⟨l, hl, hd⟩ := sarg_open hf
    refine ⟨l, hl, ?_⟩
    rcases hd with ⟨h, _⟩ | ⟨ss, _, hc, rfl⟩
    · omega
    have := sized_slice hsz (j := 3) (t := 22) (e := 9) rfl rfl Try.underlying22
    rw [bytesS] at this
    simp only [reachBytes, strs, List.length_map, List.length_take, List.length_drop] at this
    have := hl.le
    omega
  clear hA0 hval0
  refine (walk a0 a1 a2 a3 len3 cap3 l3 W w0 w1 w2 w3 s3).mono fun e W' ⟨he, bel⟩ => ?_
  subst he
  exact ⟨_, rfl, _, _, _, [], _, [], hW', trodAll_mk1 (shut_bool Try.underlying4 _), (trodAll_cons_mk (Go.ChangeMaps.shut_string Try.underlying9 w0) (trodAll_cons_mk (Go.ChangeMaps.shut_string Try.underlying9 w1) (trodAll_cons_mk (Go.ChangeMaps.shut_string Try.underlying9 w2) (trodAll_cons_mk (Below.trod laidOut (by kernel_rfl) (of_decide_eq_true (by kernel_rfl)) k3 bel lt3) trodAll_mk0)))), rfl, bel.frame _, fun h => by cases h⟩

theorem over : Rows.namesSortedRow.holds Try.pinned (OpenSpec.ofChange Rows.namesSortedSpec) :=
  OpenClaim.holds_of_wide 7 Try.f7 rfl rfl rfl rfl rfl rfl rfl ⟨rfl, rfl, rfl, rfl, rfl⟩ rfl rfl rfl rfl rfl (by kernel_rfl) Try.func7 (by kernel_rfl)
    (of_decide_eq_true (by kernel_rfl)) (by unfold Func.isWrapper; first | (rw [if_pos (by decide +kernel)]; kernel_rfl) | (rw [if_neg (by decide +kernel)]; exact ⟨rfl, rfl⟩))
    (fun os started H enc _ => lifted os started H enc)
end Go.Proofs.Ytnhoaafpdckmjaa.namesSorted

namespace Go.Proofs.Ytnhoaafpdckmjaa
theorem namesSorted_holds : Rows.NamesSortedSaid := namesSorted.over
#print axioms namesSorted_holds
end Go.Proofs.Ytnhoaafpdckmjaa
