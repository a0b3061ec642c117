/-
  What Unpack of package node answers, as one answer: the node that packs to just these bytes.
-/
import Derived.Test.YtefpcdpclpignaaKUnp
import Derived.Test.YtefpcdpclpignaaKParI2
namespace Go.Proofs.Ytefpcdpclpignaa
open Go.RowKit M

theorem txR_le' {n : Nat} {r : List UInt8} (h : n ≤ r.length) : txR n r = r.drop n := by unfold txR; rw [if_neg (by omega)]
theorem txS_le' {n : Nat} {r : List UInt8} {s : Bool} (h : n ≤ r.length) : txS n r s = s := by unfold txS; rw [if_neg (by omega)]

/-- The node that bytes would be; and are they one's? -/
def uTag (r : List UInt8) : Nat := numV 1 r
def uKey (r : List UInt8) : List UInt8 := coV 1 (txR 1 r)
def uR2 (r : List UInt8) : List UInt8 := coR 1 (txR 1 r)
def uVal (r : List UInt8) : List UInt8 := coV 2 (uR2 r)
def uEnd (r : List UInt8) : Bool := dn (coR 2 (uR2 r)) (coS 2 (uR2 r) (coS 1 (txR 1 r) (txS 1 r false)))
def uNd (r : List UInt8) : Nd := ⟨uKey r, uVal r, uTag r == 2⟩
theorem uNd_key (r : List UInt8) : (uNd r).key = uKey r := by simp only [uNd]
theorem uNd_val (r : List UInt8) : (uNd r).val = uVal r := by simp only [uNd]
theorem uNd_gone (r : List UInt8) : (uNd r).gone = (uTag r == 2) := by simp only [uNd]
theorem uNd_v (r : List UInt8) : (uNd r).v = .agg #[.string (bs (uKey r)), .string (bs (uVal r)), .bool (uTag r == 2)] := by unfold Nd.v Nd.cells; rw [uNd_key, uNd_val, uNd_gone]
def uOk (r : List UInt8) : Bool := decide (r.length ≤ 324) && uEnd r && (uNd r).ok && (uTag r == (uNd r).tag)

theorem tx_ok {n : Nat} {r : List UInt8} {s : Bool} (h : txS n r s = false) : s = false ∧ n ≤ r.length ∧ txR n r = r.drop n ∧ txV n r = r.take n := by
  unfold txS at h
  by_cases hl : r.length < n
  · rw [if_pos hl] at h; cases h
  · rw [if_neg hl] at h
    exact ⟨h, by omega, by unfold txR; rw [if_neg hl], by unfold txV; rw [if_neg hl]⟩
theorem co_ok {m : Nat} {r : List UInt8} {s : Bool} (h : coS m r s = false) : s = false ∧ m ≤ r.length ∧ numV m r ≤ (r.drop m).length ∧ coR m r = (r.drop m).drop (numV m r) ∧ coV m r = (r.drop m).take (numV m r) := by
  unfold coS at h
  obtain ⟨h1, h2, h3, h4⟩ := tx_ok h
  obtain ⟨k1, k2, k3, _⟩ := tx_ok h1
  rw [k3] at h2 h3 h4
  unfold coR coV
  rw [k3]
  exact ⟨k1, k2, h2, h3, h4⟩
theorem u8s_put (m : Nat) (hm : m ≤ 8) (r : List UInt8) (h : m ≤ r.length) : u8s (putL m (numV m r)) = r.take m := by
  rw [numV_le h hm]
  have h1 : (nats (r.take m)).length = m := by rw [nats_length, List.length_take]; omega
  have h2 := putL_getL (nats (r.take m)) (nats_lt _)
  rw [h1] at h2
  rw [h2, u8s_nats]
theorem bytes_u8s (n : Nd) : u8s n.bytes = u8s [n.tag] ++ u8s (putL 1 n.key.length) ++ n.key ++ u8s (putL 2 n.val.length) ++ n.val := by
  unfold Nd.bytes
  rw [u8s_append, u8s_append, u8s_append, u8s_append, u8s_nats, u8s_nats]
theorem u8s_byte (x : Nat) (h : x < 256) : u8s (putL 1 x) = u8s [x] := by
  unfold putL putL
  rw [Nat.mod_eq_of_lt h]
theorem coV_len (m : Nat) (r : List UInt8) : (coV m r).length ≤ r.length := by
  unfold coV txV
  split
  · simp
  · rw [List.length_take]
    exact Nat.le_trans (Nat.min_le_right _ _) (txR_len _ _)
theorem coR_len (m : Nat) (r : List UInt8) : (coR m r).length ≤ r.length := Nat.le_trans (txR_len _ _) (txR_len _ _)
theorem u_sound {r : List UInt8} (h : uOk r = true) : (uNd r).ok = true ∧ u8s (uNd r).bytes = r := by
  unfold uOk at h
  rw [Bool.and_eq_true, Bool.and_eq_true, Bool.and_eq_true] at h
  obtain ⟨⟨⟨_, he⟩, hok⟩, ht⟩ := h
  refine ⟨hok, ?_⟩
  have ht := eq_of_beq ht
  unfold uEnd dn at he
  rw [Bool.and_eq_true, Bool.not_eq_true', List.isEmpty_iff] at he
  obtain ⟨h1, h2⟩ := he
  obtain ⟨a1, a2, a3, a4, a5⟩ := co_ok h1
  obtain ⟨b1, b2, b3, b4, b5⟩ := co_ok a1
  obtain ⟨_, c2, c3, _⟩ := tx_ok b1
  rw [bytes_u8s, ← ht, uNd_key, uNd_val]
  have eV : uVal r = (((uR2 r).drop 2)) := by
    rw [a4] at h2
    have := List.drop_eq_nil_iff.1 h2
    unfold uVal
    rw [a5]
    exact List.take_of_length_le this
  have lV : (uVal r).length = numV 2 (uR2 r) := by
    unfold uVal; rw [a5, List.length_take]; omega
  have lK : (uKey r).length = numV 1 (txR 1 r) := by
    unfold uKey; rw [b5, List.length_take]; omega
  rw [lV, lK, u8s_put 2 (by decide) _ a2, u8s_put 1 (by decide) _ b2]
  have e1 : u8s [uTag r] = r.take 1 := by
    have h3 := u8s_put 1 (by decide) r c2
    rw [u8s_byte _ (numV_byte r)] at h3
    exact h3
  have eK : uKey r = ((txR 1 r).drop 1).take (numV 1 (txR 1 r)) := by unfold uKey; exact b5
  have eR : uR2 r = ((txR 1 r).drop 1).drop (numV 1 (txR 1 r)) := by unfold uR2; exact b4
  rw [e1, eV, eK, List.append_assoc, List.append_assoc, List.append_assoc, List.take_append_drop, eR, List.take_append_drop, List.take_append_drop, c3, List.take_append_drop]

/-- A text behind its size is read as it was. -/
theorem co_at (m : Nat) (hm : m ≤ 8) (k x : List UInt8) (hk : k.length < 256 ^ m) (s : Bool) : coV m (u8s (putL m k.length) ++ (k ++ x)) = k ∧ coR m (u8s (putL m k.length) ++ (k ++ x)) = x ∧ coS m (u8s (putL m k.length) ++ (k ++ x)) s = s := by
  have hl : (u8s (putL m k.length)).length = m := by rw [u8s_length, putL_length]
  have h1 : m ≤ (u8s (putL m k.length) ++ (k ++ x)).length := by rw [List.length_append]; omega
  have hn : numV m (u8s (putL m k.length) ++ (k ++ x)) = k.length := by
    rw [numV_le h1 hm]
    have e : (u8s (putL m k.length) ++ (k ++ x)).take m = u8s (putL m k.length) := List.take_left' hl
    rw [e, nats_u8s (putL_lt _ _), getL_putL, Nat.mod_eq_of_lt hk]
  have hR : txR m (u8s (putL m k.length) ++ (k ++ x)) = k ++ x := by
    rw [txR_le' h1]
    exact List.drop_left' hl
  have hS : txS m (u8s (putL m k.length) ++ (k ++ x)) s = s := txS_le' h1
  unfold coV coR coS
  rw [hn, hR, hS]
  refine ⟨?_, ?_, txS_le' (by simp)⟩
  · unfold txV; rw [if_neg (by simp)]; simp
  · rw [txR_le' (by simp)]; simp
theorem u_complete (n : Nd) (h : n.ok = true) : uOk (u8s n.bytes) = true ∧ uNd (u8s n.bytes) = n := by
  obtain ⟨q1, q2, q3, q4⟩ := Nd.ok_le h
  obtain ⟨r, er⟩ : ∃ r, r = u8s n.bytes := ⟨_, rfl⟩
  have e0 : r = u8s [n.tag] ++ (u8s (putL 1 n.key.length) ++ (n.key ++ (u8s (putL 2 n.val.length) ++ (n.val ++ [])))) := by
    rw [er, bytes_u8s]; simp [List.append_assoc]
  have ht : n.tag < 256 := by unfold Nd.tag; cases n.gone <;> decide
  have h1 : 1 ≤ r.length := by rw [e0]; simp [u8s]
  have hT : uTag r = n.tag := by
    unfold uTag
    rw [numV_le h1 (by decide)]
    have : r.take 1 = u8s [n.tag] := by rw [e0]; rfl
    rw [this, nats_u8s (by simpa using ht)]
    rfl
  have hR : txR 1 r = u8s (putL 1 n.key.length) ++ (n.key ++ (u8s (putL 2 n.val.length) ++ (n.val ++ []))) := by
    rw [txR_le' h1, e0]; rfl
  have hS : txS 1 r false = false := txS_le' h1
  obtain ⟨a1, a2, a3⟩ := co_at 1 (by decide) n.key (u8s (putL 2 n.val.length) ++ (n.val ++ [])) (by omega) false
  obtain ⟨b1, b2, b3⟩ := co_at 2 (by decide) n.val [] (by omega) false
  have hK : uKey r = n.key := by unfold uKey; rw [hR]; exact a1
  have hR2 : uR2 r = u8s (putL 2 n.val.length) ++ (n.val ++ []) := by unfold uR2; rw [hR]; exact a2
  have hV : uVal r = n.val := by unfold uVal; rw [hR2]; exact b1
  have hE : uEnd r = true := by unfold uEnd; rw [hS, hR, a3, hR2, b2, b3]; rfl
  have hN : uNd r = n := by
    unfold uNd
    rw [hK, hV, hT]
    obtain ⟨key, val, gone⟩ := n
    cases gone <;> rfl
  have hL : r.length ≤ 324 := by rw [er, u8s_length, Nd.bytes_len]; omega
  rw [← er]
  refine ⟨?_, hN⟩
  unfold uOk
  rw [hE, hN, h, hT, decide_eq_true hL]
  simp

theorem unpack_any (a : Option Addr) (n cap : Nat) (l : List Nat) (hn : n = l.length) (w : World) (hr : BRow w a l) :
    Calls Try.prog 42 #[.slice a n cap] w fun e w' => e = .returned (.tuple #[(bif uOk (u8s l) then uNd (u8s l) else Nd.zero).v, .bool (uOk (u8s l))]) ∧ Below w.heap.size w w' := by
  have hlen : (u8s l).length = n := by rw [u8s_length, hn]
  by_cases hl : n ≤ 324
  · have hP : ∀ W, Below w.heap.size w W → _ := fun W hb => readPayload_any a n cap l hn W (hr.later hb)
    obtain ⟨r, er⟩ : ∃ r, r = u8s l := ⟨_, rfl⟩
    rw [← er] at hP hlen ⊢
    have l0 : r.length ≤ maxLen := by unfold maxLen; omega
    have l1 : (txR 1 r).length ≤ maxLen := Nat.le_trans (txR_len _ _) l0
    have l2 : (uR2 r).length ≤ maxLen := Nat.le_trans (coR_len _ _) l1
    have h1 : TagAt r (txR 1 r) false (txS 1 r false) (uTag r) := by unfold uTag; exact fun W B h => tag_any B _ r false W l0 h
    have h2 : CountedAt 1 (txR 1 r) (uR2 r) (txS 1 r false) (coS 1 (txR 1 r) (txS 1 r false)) (bs (uKey r)) := by unfold uKey uR2; exact fun W B h => counted_any B _ 1 (by decide) _ _ W l1 h
    have h3 : CountedAt 2 (uR2 r) (coR 2 (uR2 r)) (coS 1 (txR 1 r) (txS 1 r false)) (coS 2 (uR2 r) (coS 1 (txR 1 r) (txS 1 r false))) (bs (uVal r)) := by unfold uVal; exact fun W B h => counted_any B _ 2 (by decide) _ _ W l2 h
    have hd : PDoneAt (coR 2 (uR2 r)) (coS 2 (uR2 r) (coS 1 (txR 1 r) (txS 1 r false))) (uEnd r) := by unfold uEnd; exact fun W B h => done_any B _ _ _ W h
    have kl : (uNd r).key.length ≤ maxLen := by rw [uNd_key]; unfold uKey; exact Nat.le_trans (coV_len 1 (txR 1 r)) l1
    have vl : (uNd r).val.length ≤ maxLen := by rw [uNd_val]; unfold uVal; exact Nat.le_trans (coV_len 2 (uR2 r)) l2
    have eg : ((uTag r : Int) == 2) = (uTag r == 2) := by rw [Bool.eq_iff_iff, beq_iff_eq, beq_iff_eq]; omega
    have ho : ∀ W, Calls Try.prog 38 #[.agg #[.string (bs (uKey r)), .string (bs (uVal r)), .bool ((uTag r : Int) == 2)]] W fun e w' => e = .returned (.bool (uNd r).ok) ∧ Below W.heap.size W w' := by rw [eg, ← uNd_v]; exact fun W => nright_any (uNd r) kl vl W
    have ht : ∀ W, Calls Try.prog 70 #[.agg #[.string (bs (uKey r)), .string (bs (uVal r)), .bool ((uTag r : Int) == 2)]] W fun e w' => e = .returned (.int .u8 ((uNd r).tag : Nat)) ∧ Below W.heap.size W w' := by rw [eg, ← uNd_v]; exact fun W => tagOf_any (uNd r) W
    have e0 : uOk r = (uEnd r && (uNd r).ok && (uTag r == (uNd r).tag)) := by unfold uOk; rw [decide_eq_true (by omega), Bool.true_and]
    rw [e0]
    cases hE : uEnd r
    · rw [hE] at hd
      exact unp_short a n cap _ _ r _ _ _ _ _ _ _ _ w hl hP h1 h2 h3 _ hd ho ht
    · rw [hE] at hd
      cases hO : (uNd r).ok
      · rw [hO] at ho
        exact unp_wrong a n cap _ _ r _ _ _ _ _ _ _ _ w hl hP h1 h2 h3 hd ho ht
      · rw [hO] at ho
        by_cases hT : uTag r = (uNd r).tag
        · have eT : (uTag r == (uNd r).tag) = true := by simpa using hT
          rw [eT]
          have := unp_yes a n cap _ _ r _ _ _ _ _ _ _ _ w hl hP h1 h2 h3 hd ho ht (by rw [← hT]; simp)
          rw [eg, ← uNd_v] at this
          exact this
        · have eT : (uTag r == (uNd r).tag) = false := by simpa using hT
          rw [eT]
          exact unp_tag a n cap _ _ r _ _ _ _ _ _ _ _ w hl hP h1 h2 h3 hd ho ht (by simp; omega)
  · have e0 : uOk (u8s l) = false := by unfold uOk; rw [decide_eq_false (by omega)]; rfl
    rw [e0]
    exact unpack_long a n cap (by omega) w
end Go.Proofs.Ytefpcdpclpignaa
