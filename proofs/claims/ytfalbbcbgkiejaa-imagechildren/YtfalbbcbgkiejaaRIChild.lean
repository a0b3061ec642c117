/-
  The document's Child.
-/
import Derived.Test.YtfalbbcbgkiejaaIChildM
import Derived.Test.YtfalbbcbgkiejaaILess
namespace Go.Proofs.Ytfalbbcbgkiejaa
open Go.RowKit M
set_option maxRecDepth 10000

set_option maxHeartbeats 2000000 in
theorem rchild_any (level : Int) (a : Option Addr) (len cap : Nat) (l : List St) (key : K) (w : World) (h : ZArg w a len cap l) (hk : key.size ≤ maxLen) :
    Calls Try.prog 21 #[.agg #[.int .i64 level, .slice a len cap], .string key] w fun e w' => e = .returned (.int .i64 (chl l key)) ∧ Below w.heap.size w w' := by
  have G0 : Hid (Bx w (w.alloc (.cells #[.int .i64 level, .slice a len cap] 24)) w.heap.size level a len cap l) := Bx.new h
  have HL : Hid (len = l.length) := h.len_eq
  have HLs : Hid (∀ (s : St), s ∈ l → ∀ W, Calls Try.prog 38 #[.string key, .string s.key] W fun e w' => e = .returned (.bool (klt key s.key)) ∧ ∃ q, w' = W.drewN q) := fun s hs W => less_any hk (h.keys s hs) W
  have hcm := h.max
  have hlc := h.le
  unfold maxLen at hcm
  unfold chl
  rw [← h.len_eq]
  obtain ⟨p, hp⟩ : ∃ p, p = noG l key := ⟨_, rfl⟩
  have HP : Hid (∀ (i : Nat) (s : St), l[i]? = some s → p i = !klt key s.key) := fun i s hs => by rw [hp]; exact noG_at key hs
  rw [← hp]
  clear h hp
  go_enter Try.func21, Try.ntmps21
  go_wp2
  go_loopg [5, 6] len (fun kx s5 s6 wr => ∃ (m : Nat) (z : Int), m + kx = len ∧ s6 = .int .i64 (m : Nat) ∧ s5 = .int .i64 z ∧ Hid (z = lst p m ∧ Bx w wr w.heap.size level a len cap l))
  case atStart => exact ⟨0, -1, by omega, rfl, rfl, (⟨rfl, G0.out⟩ : (-1 : Int) = lst p 0 ∧ _)⟩
  case round =>
    obtain ⟨m, z, hm, rfl, rfl, I⟩ := hrel
    obtain ⟨x0, x1⟩ := I.out.2.seen
    by_cases hlt : m < len
    · obtain ⟨b, off, s, rfl, hs, _, q0, _, _, _⟩ := zrow_at I.out.2.arg.row (k := m) (by have := HL.out; omega)
      have hc := HLs.out s (List.mem_of_getElem? hs)
      have hpm := HP.out m s hs
      have hi1 : (m : Int) < (len : Int) := by omega
      have HG : Hid (Bx w wr w.heap.size level (some ⟨b, off, none⟩) len cap l) := I.out.2
      have HZ := I.out.1
      obtain ⟨sk, hsk⟩ : ∃ sk, sk = s.key := ⟨_, rfl⟩
      rw [← hsk] at hc hpm q0
      clear hs hsk I
      cases hg : klt key sk with
      | true =>
        rw [hg] at hc hpm
        have HI : Hid (z = lst p (m + 1)) := by show _ = _; rw [lst, hpm]; exact HZ
        clear hpm hg HZ
        go_wp2_with (go_at_call 38; refine (hc _).mono ?_; rintro e w1 ⟨rfl, q, rfl⟩)
        go_roundg (len - (m + 1))
        case measure => omega
        case rel => exact ⟨m + 1, z, by omega, by go_num, rfl, (⟨HI.out, HG.out.later (below_drawn _ _)⟩ : _ ∧ _)⟩
      | false =>
        rw [hg] at hc hpm
        have HI : Hid ((m : Int) = lst p (m + 1)) := by show _ = _; rw [lst, hpm]; rfl
        clear hpm hg HZ
        go_wp2_with (go_at_call 38; refine (hc _).mono ?_; rintro e w1 ⟨rfl, q, rfl⟩)
        go_roundg (len - (m + 1))
        case measure => omega
        case rel => exact ⟨m + 1, m, by omega, by go_num, rfl, (⟨HI.out, HG.out.later (below_drawn _ _)⟩ : _ ∧ _)⟩
    · have hml : m = len := by omega
      have HI : Hid (z = lst p len ∧ Below w.heap.size w wr) := by rw [← hml]; exact (⟨I.out.1, I.out.2.bel⟩ : _ ∧ _)
      have hi1 : ¬ (m : Int) < (len : Int) := by omega
      clear hml
      go_wp2
      go_ret
      exact ⟨by rw [← HI.out.1]; rfl, HI.out.2⟩
end Go.Proofs.Ytfalbbcbgkiejaa
