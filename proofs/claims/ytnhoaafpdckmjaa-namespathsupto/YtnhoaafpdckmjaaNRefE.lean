/-
  The document's answers of Join and Clean.
-/
import Derived.Test.YtnhoaafpdckmjaaNRefB
import Derived.Test.YtnhoaafpdckmjaaNBulk
namespace Go.Proofs.Ytnhoaafpdckmjaa
open Go.RowKit Go.Shelf M

theorem datas_length (l : List ByteArray) : (datas l).length = l.length := by unfold datas; simp
theorem slashed_weigh : ∀ l : List ByteArray, (slashed (datas l)).length = weigh l
  | [] => rfl
  | s :: l => by
    have e : slashed (datas (s :: l)) = 47 :: (s.data.toList ++ slashed (datas l)) := by simp [slashed, datas]
    have e2 : s.data.toList.length = s.size := by rw [Array.length_toList]; rfl
    rw [e, weigh_cons, ← slashed_weigh l]
    simp only [List.length_cons, List.length_append, e2]
    omega
theorem weigh_take (l : List ByteArray) (k : Nat) : weigh (l.take k) ≤ weigh l := by
  conv => rhs; rw [← List.take_append_drop k l]
  rw [weigh_append]; omega
theorem joined_len (l : List ByteArray) : (joined (datas l)).length ≤ weigh l + 1 := by
  unfold joined
  split
  · simp
  · rw [slashed_weigh]; omega
theorem joined_zero (l : List ByteArray) : joined (datas (l.take 0)) = [47] := rfl
theorem joined_one {l : List ByteArray} {x : ByteArray} (h : l[0]? = some x) : joined (datas (l.take (0 + 1))) = [47] ++ x.data.toList := by
  rw [List.take_add_one, h]
  simp [joined, datas, slashed]
theorem joined_succ {l : List ByteArray} {k : Nat} {x : ByteArray} (hk : k ≠ 0) (h : l[k]? = some x) : joined (datas (l.take (k + 1))) = joined (datas (l.take k)) ++ [47] ++ x.data.toList := by
  have hkl := (List.getElem?_eq_some_iff.1 h).1
  have hne : datas (l.take k) ≠ [] := by intro e; have := congrArg List.length e; rw [datas_length, List.length_take, List.length_nil] at this; omega
  rw [List.take_add_one, h]
  have e : datas (l.take k ++ (some x).toList) = datas (l.take k) ++ [x.data.toList] := by simp [datas]
  rw [e]
  unfold joined
  rw [if_neg (by simp), if_neg hne]
  simp [slashed]
theorem bs_app (a b : List UInt8) : bs a ++ bs b = bs (a ++ b) := by
  apply ByteArray.ext
  simp [bs]

set_option maxRecDepth 100000 in
set_option maxHeartbeats 2000000 in
theorem rjoin_any (a : Option Addr) (n c : Nat) (l : List ByteArray) (w : World) (hn : n = l.length) (hr : SRow w a l) (hw : weigh l ≤ 4194304) :
    Calls Try.prog 20 #[.slice a n c] w fun e w' => e = .returned (.string (bs (joined (datas l)))) ∧ w = w' := by
  have hn2 : n ≤ 4194304 := by have := weigh_length l; omega
  have HN : Hid (n = l.length) := hn
  have HR : Hid (SRow w a l) := hr
  have HW : Hid (∀ k, (joined (datas (l.take k))).length ≤ 4194305) := fun k => by have h1 := joined_len (l.take k); have h2 := weigh_take l k; omega
  have HXS : Hid (∀ (k : Nat) (x : ByteArray), l[k]? = some x → x.size ≤ 4194304) := fun k x h => by
    have h1 := weigh_take l (k + 1)
    rw [List.take_add_one, h, weigh_append] at h1
    simp [weigh] at h1
    have : weigh l = (l.map (fun s => s.size + 1)).sum := rfl
    omega
  clear hn hr
  go_enter Try.func20, Try.ntmps20
  go_wp2
  go_loop [3, 4] (fun s3 s4 => ∃ (k : Nat) (S : ByteArray), k ≤ n ∧ s4 = .int .i64 k ∧ s3 = .string S ∧ S = bs (joined (datas (l.take k)))) (fun _ s4 => n - (intOf s4).toNat)
  case atStart => exact ⟨0, _, by omega, rfl, rfl, rfl⟩
  case round =>
    obtain ⟨k, S, hk, rfl, rfl, hS⟩ := hrel
    have HS : Hid (S = bs (joined (datas (l.take k)))) := hS
    have hsz : S.size ≤ 4194305 := by rw [hS, bs_size]; exact HW.out k
    clear hS
    by_cases hlt : k < n
    · have hkl : k < l.length := by have := HN.out; omega
      obtain ⟨b, off, rfl⟩ : ∃ b off, a = some ⟨b, off, none⟩ := by
        rcases HR.out with h | ⟨b, off, h, _⟩
        · rw [h] at hkl; simp at hkl
        · exact ⟨b, off, h⟩
      obtain ⟨x, hx⟩ : ∃ x, l[k]? = some x := ⟨_, List.getElem?_eq_getElem hkl⟩
      have HX : Hid (l[k]? = some x) := hx
      have gx : w.cell? ⟨b, off + k, none⟩ = some (.string x) := by
        rcases HR.out with h | ⟨b', off', ha, hc⟩
        · rw [h] at hkl; simp at hkl
        · cases ha
          rw [hc k hkl, List.getD, hx]; rfl
      have hxs := HXS.out k x hx
      clear hx hkl
      by_cases h0 : k = 0
      · subst h0
        have gx0 : w.cell? ⟨b, off, none⟩ = some (.string x) := by simpa using gx
        have HE : Hid (S ++ x = bs (joined (datas (l.take (0 + 1))))) := by
          show _ = _
          rw [joined_one HX.out, ← bs_app, bs_of, HS.out, joined_zero]
        have hs1 : S.size + x.size ≤ 9223372036854775807 := by omega
        go_wp2
        go_round
        case rel => exact ⟨0 + 1, S ++ x, by omega, by go_num, rfl, HE.out⟩
        case measure => simp [intOf]; omega
      · have HE : Hid (S ++ ⟨#[47]⟩ ++ x = bs (joined (datas (l.take (k + 1))))) := by
          show _ = _
          rw [joined_succ h0 HX.out, ← bs_app, ← bs_app, bs_of, HS.out]
          rfl
        have hk0 : (0 : Int) < (k : Int) := by omega
        have hs1 : S.size + 1 ≤ 9223372036854775807 := by omega
        have hs2 : S.size + 1 + x.size ≤ 9223372036854775807 := by omega
        have hs3 : (S ++ ⟨#[47]⟩ : ByteArray).size + x.size ≤ 9223372036854775807 := by rw [ByteArray.size_append]; exact hs2
        clear h0
        go_wp2
        go_round
        case rel => exact ⟨k + 1, S ++ ⟨#[47]⟩ ++ x, by omega, by go_num, rfl, HE.out⟩
        case measure => simp [intOf]; omega
    · have hkn : k = n := by omega
      subst hkn
      go_wp2
      go_ret
      refine ⟨?_, rfl⟩
      have e : l.take k = l := by rw [HN.out, List.take_length]
      have h := HS.out
      rw [e] at h
      rw [← h]
      rfl
end Go.Proofs.Ytnhoaafpdckmjaa
