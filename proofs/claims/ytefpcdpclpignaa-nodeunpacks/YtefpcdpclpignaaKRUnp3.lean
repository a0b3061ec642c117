/-
  The document's answers of Unpack and ParseMark of layer 6, each as one answer.
-/
import Derived.Test.YtefpcdpclpignaaKRUnp2
import Derived.Deep.QuietTactic
namespace Go.Proofs.Ytefpcdpclpignaa
open Go.RowKit M

theorem bytes_shape (n : Nd) (h : n.ok = true) {x y : UInt8} {r : List UInt8} (e : u8s n.bytes = x :: y :: r) : x.toNat = n.tag ∧ y.toNat + 2 ≤ r.length ∧ r.take y.toNat = n.key ∧ r.drop (y.toNat + 2) = n.val := by
  obtain ⟨q1, q2, q3, _⟩ := Nd.ok_le h
  have ht : n.tag < 256 := by unfold Nd.tag; cases n.gone <;> decide
  have e0 : u8s n.bytes = UInt8.ofNat n.tag :: UInt8.ofNat (n.key.length % 256) :: (n.key ++ (u8s (putL 2 n.val.length) ++ n.val)) := by
    rw [bytes_u8s]
    show u8s [n.tag] ++ u8s [n.key.length % 256] ++ n.key ++ u8s (putL 2 n.val.length) ++ n.val = _
    simp [u8s, List.append_assoc]
  rw [e0] at e
  simp only [List.cons.injEq] at e
  obtain ⟨rfl, rfl, rfl⟩ := e
  have hy : (UInt8.ofNat (n.key.length % 256)).toNat = n.key.length := by simp; omega
  have hx : (UInt8.ofNat n.tag).toNat = n.tag := by simp; omega
  have hl : (n.key ++ u8s (putL 2 n.val.length)).length = n.key.length + 2 := by rw [List.length_append, u8s_length, putL_length]
  rw [hy, hx]
  refine ⟨rfl, by rw [List.length_append, List.length_append, u8s_length, putL_length]; omega, by simp, ?_⟩
  rw [← List.append_assoc]
  exact List.drop_left' hl

theorem runpack_any (a : Option Addr) (n cap : Nat) (l : List Nat) (hn : n = l.length) (hl : n ≤ maxLen) (w : World) (hr : BRow w a l) :
    Calls Try.prog 43 #[.slice a n cap] w fun e w' => e = .returned (.tuple #[(bif uOk (u8s l) then uNd (u8s l) else Nd.zero).v, .bool (uOk (u8s l))]) ∧ Below w.heap.size w w' := by
  have hcv : ∀ o : Obj, (convert 43 9 (.slice a n cap)).run Try.prog (w.alloc o) = .ok (.string (bs (u8s l))) (w.alloc o) := fun o => by rw [hn]; exact conv_row cap (hr.later (below_new _ _))
  have hlen : (u8s l).length = n := by rw [u8s_length, hn]
  have hsnd : uOk (u8s l) = true → (uNd (u8s l)).ok = true ∧ u8s (uNd (u8s l)).bytes = u8s l := fun h => u_sound h
  have hno : (uOk (u8s l) = true → False) → uOk (u8s l) = false := fun h => by cases e : uOk (u8s l); rfl; exact (h e).elim
  by_cases h2 : n < 2
  · have e0 : uOk (u8s l) = false := hno fun h => by
      obtain ⟨k1, k2⟩ := hsnd h
      have := congrArg List.length k2
      rw [u8s_length, Nd.bytes_len, hlen] at this
      omega
    rw [e0]
    exact runp_len a n cap l hn h2 w hr
  · obtain ⟨x, y, r, er⟩ : ∃ x y r, u8s l = x :: y :: r := by
      match hu : u8s l, hlen with
      | [], h => simp at h; omega
      | [x], h => simp at h; omega
      | x :: y :: r, _ => exact ⟨x, y, r, rfl⟩
    have hS : Tx (bs (u8s l)) x y r := ⟨by rw [er]⟩
    have hbig : (bs (u8s l)).size ≤ 9223372036854775807 := by rw [bs_size, hlen]; exact hl
    by_cases hx : x = 1 ∨ x = 2
    · by_cases hs : r.length < y.toNat + 2
      · have e0 : uOk (u8s l) = false := hno fun h => by
          obtain ⟨k1, k2⟩ := hsnd h
          obtain ⟨_, j2, _⟩ := bytes_shape _ k1 (k2.trans er)
          omega
        rw [e0]
        exact runp_short a n cap _ x y r hS hx hs w hcv
      · obtain ⟨m, em⟩ : ∃ m : Nd, m = ⟨r.take y.toNat, r.drop (y.toNat + 2), x == 2⟩ := ⟨_, rfl⟩
        have hmn : uOk (u8s l) = true → m = uNd (u8s l) := fun h => by
          obtain ⟨k1, k2⟩ := hsnd h
          obtain ⟨j1, _, j3, j4⟩ := bytes_shape _ k1 (k2.trans er)
          rw [em, j3, j4]
          obtain ⟨nn, enn⟩ : ∃ nn, nn = uNd (u8s l) := ⟨_, rfl⟩
          rw [← enn] at j1 ⊢
          have hgo : (x == 2) = nn.gone := by
            unfold Nd.tag at j1
            cases hgg : nn.gone
            · rw [hgg] at j1
              rcases hx with rfl | rfl
              · rfl
              · cases j1
            · rw [hgg] at j1
              rcases hx with rfl | rfl
              · cases j1
              · rfl
          rw [hgo]
        have rl : r.length ≤ maxLen := by
          have := congrArg List.length er
          rw [hlen] at this
          simp at this
          omega
        have hk : m.key.length ≤ maxLen := by rw [em]; show (r.take y.toNat).length ≤ _; rw [List.length_take]; omega
        have hv : m.val.length ≤ maxLen := by rw [em]; show (r.drop (y.toNat + 2)).length ≤ _; rw [List.length_drop]; omega
        have mv : m.v = .agg #[.string (bs (r.take y.toNat)), .string (bs (r.drop (y.toNat + 2))), .bool (x == 2)] := by rw [em]; rfl
        cases ho : m.ok
        · have e0 : uOk (u8s l) = false := hno fun h => by
            have := (hsnd h).1
            rw [← hmn h, ho] at this
            cases this
          rw [e0]
          have hP := fun W => rpack_no m hk hv ho W
          rw [mv] at hP
          exact runp_refused a n cap _ _ _ _ x y r hS hx rfl (by omega) rfl rfl hbig w hcv hP
        · have hP := fun W => rpack_yes m ho W
          rw [mv] at hP
          have HC : ∀ (W : World) (a : Option Addr) (c : Nat), BRow W a m.bytes → (convert 43 9 (.slice a m.bytes.length c)).run Try.prog W = .ok (.string (bs (u8s m.bytes))) W := fun W a c h => conv_row c h
          by_cases hb : u8s m.bytes = u8s l
          · obtain ⟨k1, k2⟩ := u_complete m ho
            rw [hb] at k1 k2
            rw [k1, cond_true, k2, mv]
            exact runp_yes a n cap _ _ _ _ x y r hS hx rfl (by omega) rfl rfl hbig w hcv _ _ hP _ HC (by rw [bs_beq]; exact decide_eq_true hb)
          · have e0 : uOk (u8s l) = false := hno fun h => by
              apply hb
              rw [hmn h]
              exact (hsnd h).2
            rw [e0]
            exact runp_other a n cap _ _ _ _ x y r hS hx rfl (by omega) rfl rfl hbig w hcv _ _ hP _ HC (by rw [bs_beq]; exact decide_eq_false hb)
    · have e0 : uOk (u8s l) = false := hno fun h => by
        obtain ⟨k1, k2⟩ := hsnd h
        obtain ⟨j1, _⟩ := bytes_shape _ k1 (k2.trans er)
        apply hx
        unfold Nd.tag at j1
        cases hgg : (uNd (u8s l)).gone
        · rw [hgg] at j1; exact .inl (UInt8.toNat_inj.1 j1)
        · rw [hgg] at j1; exact .inr (UInt8.toNat_inj.1 j1)
      rw [e0]
      exact runp_tag a n cap _ x y r hS ⟨fun e => hx (.inl e), fun e => hx (.inr e)⟩ w hcv
end Go.Proofs.Ytefpcdpclpignaa
