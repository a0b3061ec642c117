/-
  A tree without places: grow, fall, Put and Delete on it; small functions.
-/
import Derived.Test.YtpflacbinankmaaBGet
namespace Go.Proofs.Ytpflacbinankmaa.Bt
open Go.RowKit
set_option maxRecDepth 10000

structure Tre where
  n : Nat
  T : El (n + 1)
def Tre.all (x : Tre) : List KV := flats x.T.l
def growT (F : Nat) (x : Tre) : Tre := if F < x.T.l.length then ⟨x.n + 1, .nd true [halfL x.T, halfR x.T]⟩ else x
def fallT : Tre → Tre
  | ⟨0, T⟩ => ⟨0, T⟩
  | ⟨n + 1, T⟩ => match T.l with
    | [c] => ⟨n, c⟩
    | _ => ⟨n + 1, T⟩
def putT (F : Nat) (k v : K) (x : Tre) : Tre := growT F ⟨x.n, put F k v x.n x.T⟩
def delT (F : Nat) (k : K) (x : Tre) : Tre := fallT ⟨x.n, remove F k x.n x.T⟩
def okKey (k : K) : Bool := k.size != 0 && decide (k.size ≤ 64)
def okVal (v : K) : Bool := decide (v.size ≤ 256)
/-- A tree to which a key's value was put. -/
def putS (F : Nat) (k v : K) (x : Tre) : Tre := if look k x.all = some v then x else putT F k v x
def putR (F : Nat) (k v : K) (x : Tre) : Tre := if okKey k && okVal v then putS F k v x else x
def putE (k v : K) : Int := if okKey k && okVal v then 0 else 22
def delS (F : Nat) (k : K) (x : Tre) : Tre := if (look k x.all).isSome then delT F k x else x
theorem flats_pos {F : Nat} (hF : 4 ≤ F) {n : Nat} : ∀ (l : List (El n)), (∀ e ∈ l, Fill F n e) → l.length ≤ (flats l).length
  | [], _ => Nat.zero_le _
  | e :: l, h => by
    obtain ⟨x, r, hx, _⟩ := fill_hd hF n e (h e (by simp))
    have := flats_pos hF l (fun y hy => h y (by simp [hy]))
    rw [flats_cons, List.length_append, hx]
    simp only [List.length_cons] at *
    omega
theorem fill_deep {F : Nat} (hF : 4 ≤ F) : ∀ (n : Nat) (e : El n), Fill F n e → (F / 2) ^ n ≤ (flat n e).length
  | 0, e, _ => by simp [flat]
  | n + 1, t, h => by
    obtain ⟨h1, _, h3⟩ := h
    have : ∀ l : List (El n), (∀ e ∈ l, Fill F n e) → l.length * (F / 2) ^ n ≤ (flats l).length := by
      intro l
      induction l with
      | nil => intro _; simp
      | cons e l ih =>
        intro hl
        have i1 := fill_deep hF n e (hl e (by simp))
        have i2 := ih (fun y hy => hl y (by simp [hy]))
        rw [flats_cons, List.length_append, List.length_cons, Nat.succ_mul]
        omega
    have h4 := this t.l h3
    rw [flat_succ, Nat.pow_succ, Nat.mul_comm]
    exact Nat.le_trans (Nat.mul_le_mul_right _ h1) h4
theorem inv_deep {F : Nat} (hF : 4 ≤ F) {n : Nat} {T : El (n + 1)} (h : Inv F n T) (hn : 0 < n) : 2 * (F / 2) ^ n ≤ (flats T.l).length := by
  have : ∀ l : List (El n), (∀ e ∈ l, Fill F n e) → l.length * (F / 2) ^ n ≤ (flats l).length := by
    intro l
    induction l with
    | nil => intro _; simp
    | cons e l ih =>
      intro hl
      have i1 := fill_deep hF n e (hl e (by simp))
      have i2 := ih (fun y hy => hl y (by simp [hy]))
      rw [flats_cons, List.length_append, List.length_cons, Nat.succ_mul]
      omega
  exact Nat.le_trans (Nat.mul_le_mul_right _ (h.two hn)) (this T.l h.good.kids)
theorem lt_pow2 (n b : Nat) (hb : 2 ≤ b) : n < b ^ n := by
  induction n with
  | zero => simp
  | succ n ih =>
    rw [Nat.pow_succ]
    have : b ^ n * 2 ≤ b ^ n * b := Nat.mul_le_mul_left _ hb
    omega
theorem inv_level {F : Nat} (hF : 4 ≤ F) {n : Nat} {T : El (n + 1)} (h : Inv F n T) : n ≤ (flats T.l).length := by
  cases n with
  | zero => exact Nat.zero_le _
  | succ n =>
    have h1 := inv_deep hF h (by omega)
    have h2 := lt_pow2 (n + 1) (F / 2) (by omega)
    omega
def InvT (F : Nat) (x : Tre) : Prop := Inv F x.n x.T
/-- Put keeps what the nodes keep to. -/
theorem inv_put {F : Nat} (hF : 4 ≤ F) (k v : K) {x : Tre} (h : InvT F x) : InvT F (putT F k v x) ∧ (putT F k v x).all = ins k v x.all := by
  obtain ⟨n, T⟩ := x
  replace h : Inv F n T := h
  obtain ⟨o1, o2, o3, o4, o5⟩ := put_ok hF k v n T h.good h.le (fun hn => by have := h.two hn; omega)
  have hs : Srt (flats (put F k v n T).l) := by rw [o1]; exact (ins_srt h.good.srt).1
  by_cases hl : F < (put F k v n T).l.length
  · have ex : putT F k v ⟨n, T⟩ = ⟨n + 1, .nd true [halfL (put F k v n T), halfR (put F k v n T)]⟩ := by unfold putT growT; rw [if_pos hl]
    rw [ex]
    have hle : (put F k v n T).l.length ≤ F + 1 := by have := h.le; omega
    have e : flats (n := n + 1) [halfL (put F k v n T), halfR (put F k v n T)] = flats (put F k v n T).l := by
      rw [flats_cons, flats_cons, flat_succ, flat_succ]
      show flats ((put F k v n T).l.take _) ++ (flats ((put F k v n T).l.drop _) ++ []) = _
      rw [List.append_nil, ← flats_append, List.take_append_drop]
    refine ⟨⟨⟨?_, ?_⟩, ?_, ?_⟩, ?_⟩
    · intro c hc
      have hc : c ∈ [halfL (put F k v n T), halfR (put F k v n T)] := hc
      simp only [List.mem_cons, List.not_mem_nil, or_false] at hc
      rcases hc with rfl | rfl
      · refine ⟨?_, ?_, fun y hy => o2 y (List.mem_of_mem_take hy)⟩ <;> (show _ ≤ _; simp only [halfL, El.l_nd, List.length_take]; omega)
      · refine ⟨?_, ?_, fun y hy => o2 y (List.mem_of_mem_drop hy)⟩ <;> (show _ ≤ _; simp only [halfR, El.l_nd, List.length_drop]; omega)
    · show Srt (flats (n := n + 1) [halfL (put F k v n T), halfR (put F k v n T)]); rw [e]; exact hs
    · show 2 ≤ F; omega
    · intro _; exact Nat.le_refl 2
    · show flats (n := n + 1) [halfL (put F k v n T), halfR (put F k v n T)] = _; rw [e]; exact o1
  · have ex : putT F k v ⟨n, T⟩ = ⟨n, put F k v n T⟩ := by unfold putT growT; rw [if_neg hl]
    rw [ex]
    exact ⟨⟨⟨o2, hs⟩, by show (put F k v n T).l.length ≤ F; omega, fun hn => by have := h.two hn; show 2 ≤ (put F k v n T).l.length; omega⟩, o1⟩
theorem inv_del {F : Nat} (hF : 4 ≤ F) (k : K) {x : Tre} (h : InvT F x) (hk : k ∈ x.all.map Prod.fst) : InvT F (delT F k x) ∧ (delT F k x).all = del k x.all := by
  obtain ⟨n, T⟩ := x
  replace h : Inv F n T := h
  obtain ⟨o1, o2, o3, o4⟩ := remove_ok hF k n T h.good h.le h.two hk
  have hs : Srt (flats (remove F k n T).l) := by rw [o1]; exact del_srt h.good.srt
  unfold delT
  cases n with
  | zero => exact ⟨⟨⟨o2, hs⟩, by show (remove F k 0 T).l.length ≤ F; have := h.le; omega, fun hn => by have hn : 0 < 0 := hn; omega⟩, o1⟩
  | succ n =>
    have h2 := h.two (by omega)
    have hle := h.le
    show InvT F (fallT ⟨n + 1, remove F k (n + 1) T⟩) ∧ (fallT ⟨n + 1, remove F k (n + 1) T⟩).all = _
    generalize remove F k (n + 1) T = R at *
    cases hR : R.l with
    | nil => rw [hR] at o3; simp at o3; have h2 : 2 ≤ T.l.length := h2; omega
    | cons c r =>
      cases r with
      | nil =>
        have ex : fallT ⟨n + 1, R⟩ = ⟨n, c⟩ := by show (match R.l with | [c] => (⟨n, c⟩ : Tre) | _ => ⟨n + 1, R⟩) = _; rw [hR]
        rw [ex]
        rw [hR] at o2 hs o1
        obtain ⟨f1, f2, f3⟩ := o2 c (by simp)
        rw [flats_cons, flat_succ] at hs o1
        have hs : Srt (flats c.l) := by simpa [flats] using hs
        refine ⟨⟨⟨f3, hs⟩, f2, fun _ => ?_⟩, ?_⟩
        · show 2 ≤ c.l.length; have := f1; omega
        · show flats c.l = _
          have o1 : flats c.l = del k (flats T.l) := by simpa [flats] using o1
          exact o1
      | cons c2 r =>
        have ex : fallT ⟨n + 1, R⟩ = ⟨n + 1, R⟩ := by show (match R.l with | [c] => (⟨n, c⟩ : Tre) | _ => ⟨n + 1, R⟩) = _; rw [hR]
        rw [ex]
        exact ⟨⟨⟨o2, hs⟩, by show R.l.length ≤ F; have hle : T.l.length ≤ F := hle; omega, fun _ => by show 2 ≤ R.l.length; rw [hR]; simp⟩, o1⟩
theorem ins_len (k v : K) : ∀ (l : List KV), Srt l → (ins k v l).length = if (look k l).isSome then l.length else l.length + 1
  | [], _ => by simp [ins, look]
  | x :: l, h => by
    obtain ⟨h1, h2⟩ := List.pairwise_cons.1 h
    rw [ins, look]
    by_cases e : x.1 = k
    · rw [if_neg (by rw [e, klt_irrefl]; decide), if_pos e, if_pos e]; simp
    · rw [if_neg e]
      cases q : klt x.1 k with
      | true =>
        have ih := ins_len k v l h2
        rw [if_pos rfl, List.length_cons, ih, if_neg e]
        split <;> simp
      | false =>
        have hk : klt k x.1 = true := by
          cases q3 : klt k x.1 with
          | true => rfl
          | false => exact absurd (klt_total q q3) e
        rw [if_neg (by decide), if_neg e, look_none k l (fun z hz => klt_trans hk (h1 z hz))]
        simp
theorem del_len (k : K) {l : List KV} (h : Srt l) (hk : k ∈ l.map Prod.fst) : (del k l).length + 1 = l.length := by
  obtain ⟨x, hx, _, e⟩ := del_at h hk
  have := (List.getElem?_eq_some_iff.1 hx).1
  rw [← e, List.length_append, List.length_take, List.length_drop]
  omega
theorem list_len (k : K) : k.toList.length = k.size := by rw [ByteArray.toList_eq]; cases k; simp [ByteArray.size]
set_option maxHeartbeats 400000 in
theorem rightKey_any (k : K) (w : World) : Calls Try.prog 51 #[.string k] w fun e w' => e = .returned (.bool (okKey k)) ∧ w' = w := by
  by_cases h0 : k.size = 0
  · have e1 : k.toList = [] := List.eq_nil_of_length_eq_zero (by rw [list_len, h0])
    have e2 : okKey k = false := by simp [okKey, h0]
    rw [e2]
    go_enter Try.func51, Try.ntmps51
    go_wp2
    all_goals go_ret
    all_goals exact ⟨ret_bool (by simp), rfl⟩
  · have e1 : ¬ k.toList = [] := fun e => h0 (by rw [← list_len, e]; rfl)
    have e3 : k.toList.isEmpty = false := by simpa using e1
    have e2 : okKey k = decide ((k.size : Int) ≤ 64) := by
      unfold okKey
      have : (k.size != 0) = true := by simpa using h0
      rw [this, Bool.true_and]
      simp; omega
    rw [e2]
    go_enter Try.func51, Try.ntmps51
    go_wp2
    all_goals go_ret
    all_goals exact ⟨ret_bool (by simp), rfl⟩
set_option maxHeartbeats 400000 in
theorem rightValue_any (v : K) (w : World) : Calls Try.prog 52 #[.string v] w fun e w' => e = .returned (.bool (okVal v)) ∧ w' = w := by
  have e2 : okVal v = decide ((v.size : Int) ≤ 256) := by unfold okVal; simp; omega
  rw [e2]
  go_enter Try.func52, Try.ntmps52
  go_wp2
  go_ret
  exact ⟨ret_bool (by first | rfl | simp), rfl⟩
def okFan (f : Int) : Bool := decide (4 ≤ f ∧ f ≤ 64)
set_option maxHeartbeats 400000 in
theorem rightFan_any (f : Int) (w : World) : Calls Try.prog 55 #[.int .i64 f] w fun e w' => e = .returned (.bool (okFan f)) ∧ w' = w := by
  by_cases h : 4 ≤ f
  · have e2 : okFan f = decide (f ≤ 64) := by unfold okFan; simp [h]
    rw [e2]
    go_enter Try.func55, Try.ntmps55
    go_wp2
    go_ret
    exact ⟨ret_bool (by first | rfl | simp), rfl⟩
  · have e2 : okFan f = false := by unfold okFan; simp [h]
    have e3 : decide ((4 : Int) ≤ f) = false := by simpa using h
    rw [e2]
    go_enter Try.func55, Try.ntmps55
    go_wp2
    go_ret
    exact ⟨rfl, rfl⟩
end Go.Proofs.Ytpflacbinankmaa.Bt
