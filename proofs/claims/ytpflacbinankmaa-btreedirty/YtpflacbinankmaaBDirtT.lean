/-
  What one change of a clean tree makes dirty.
-/
import Derived.Test.YtpflacbinankmaaBDirtM
namespace Go.Proofs.Ytpflacbinankmaa.Bt
open Go.RowKit
set_option maxRecDepth 10000

theorem up0 (e : El 0) : Up 0 e := trivial
theorem half_up {n : Nat} {c : El (n + 1)} (h : Up (n + 1) c) (hd : c.d = true) : Up (n + 1) (halfL c) ∧ Up (n + 1) (halfR c) := by
  unfold halfL halfR
  rw [hd]
  exact ⟨up_nd fun e he => h.2 e (List.mem_of_mem_take he), up_nd fun e he => h.2 e (List.mem_of_mem_drop he)⟩
theorem putIn_up {n : Nat} (F i : Nat) {l : List (El (n + 1))} {c : El (n + 1)} (hl : ∀ e ∈ l, Up (n + 1) e) (hc : Up (n + 1) c) (hd : c.d = true) : ∀ e ∈ putIn F i l c, Up (n + 1) e := by
  intro e he
  unfold putIn at he
  split at he
  · obtain ⟨u1, u2⟩ := half_up hc hd
    rcases List.mem_append.1 he with he | he
    · exact hl e (List.mem_of_mem_take he)
    · rcases List.mem_cons.1 he with rfl | he
      · exact u1
      · rcases List.mem_cons.1 he with rfl | he
        · exact u2
        · exact hl e (List.mem_of_mem_drop he)
  · rcases List.mem_or_eq_of_mem_set he with he | rfl
    · exact hl e he
    · exact hc
theorem put_d (F : Nat) (k v : K) (n : Nat) (T : El (n + 1)) : (put F k v n T).d = true := by
  cases n with
  | zero => rfl
  | succ n =>
    have e : put F k v (n + 1) T = match T.l[place k T.l]? with | none => .nd true T.l | some c => .nd true (putIn F (place k T.l) T.l (put F k v n c)) := rfl
    rw [e]
    split <;> rfl
theorem put_up (F : Nat) (k v : K) : ∀ (n : Nat) (T : El (n + 1)), Up (n + 1) T → Up (n + 1) (put F k v n T)
  | 0, T, _ => up_nd fun e _ => up0 e
  | n + 1, T, h => by
    have e : put F k v (n + 1) T = match T.l[place k T.l]? with | none => .nd true T.l | some c => .nd true (putIn F (place k T.l) T.l (put F k v n c)) := rfl
    rw [e]
    split
    · exact up_nd h.2
    · rename_i c hc
      exact up_nd (putIn_up F _ h.2 (put_up F k v n c (h.2 c (List.mem_of_getElem? hc))) (put_d F k v n c))
theorem remove_d (F : Nat) (k : K) (n : Nat) (T : El (n + 1)) : (remove F k n T).d = true := by
  cases n with
  | zero => rfl
  | succ n =>
    have e : remove F k (n + 1) T = match T.l[place k T.l]? with | none => .nd true T.l | some c => .nd true (takeIn F (place k T.l) T.l (remove F k n c)) := rfl
    rw [e]
    split <;> rfl
theorem joined_up {n : Nat} (F i : Nat) {l : List (El (n + 1))} (hl : ∀ e ∈ l, Up (n + 1) e) : ∀ e ∈ joined F i l, Up (n + 1) e := by
  unfold joined
  split
  · rename_i a b ha hb
    refine putIn_up F i (fun e he => ?_) (up_nd fun e he => ?_) rfl
    · rcases List.mem_append.1 he with he | he
      · exact hl e (List.mem_of_mem_take he)
      · exact hl e (List.mem_of_mem_drop he)
    · rcases List.mem_append.1 he with he | he
      · exact (hl a (List.mem_of_getElem? ha)).2 e he
      · exact (hl b (List.mem_of_getElem? hb)).2 e he
  · exact hl
theorem remove_up (F : Nat) (k : K) : ∀ (n : Nat) (T : El (n + 1)), Up (n + 1) T → Up (n + 1) (remove F k n T)
  | 0, T, _ => up_nd fun e _ => up0 e
  | n + 1, T, h => by
    have e : remove F k (n + 1) T = match T.l[place k T.l]? with | none => .nd true T.l | some c => .nd true (takeIn F (place k T.l) T.l (remove F k n c)) := rfl
    rw [e]
    split
    · exact up_nd h.2
    · rename_i c hc
      refine up_nd ?_
      have hs : ∀ e ∈ T.l.set (place k T.l) (remove F k n c), Up (n + 1) e := fun e he => by
        rcases List.mem_or_eq_of_mem_set he with he | rfl
        · exact h.2 e he
        · exact remove_up F k n c (h.2 c (List.mem_of_getElem? hc))
      unfold takeIn
      split
      · exact joined_up F _ hs
      · exact hs
def UpT (x : Tre) : Prop := Up (x.n + 1) x.T
theorem up_tre0 : UpT tre0 := up_nd fun e he => (by cases he)
theorem up_putT (F : Nat) (k v : K) {x : Tre} (h : UpT x) : UpT (putT F k v x) := by
  have hp := put_up F k v x.n x.T h
  unfold putT growT
  split
  · obtain ⟨u1, u2⟩ := half_up hp (put_d F k v x.n x.T)
    refine up_nd fun e he => ?_
    simp only [List.mem_cons, List.not_mem_nil, or_false] at he
    rcases he with rfl | rfl
    · exact u1
    · exact u2
  · exact hp
theorem fall_cases (x : Tre) : (∃ (n : Nat) (R : El (n + 2)) (c : El (n + 1)), x = ⟨n + 1, R⟩ ∧ R.l = [c] ∧ fallT x = ⟨n, c⟩) ∨ fallT x = x := by
  obtain ⟨n, R⟩ := x
  cases n with
  | zero => exact .inr rfl
  | succ n =>
    have e : fallT ⟨n + 1, R⟩ = match R.l with | [c] => (⟨n, c⟩ : Tre) | _ => ⟨n + 1, R⟩ := rfl
    rw [e]
    cases hR : R.l with
    | nil => exact .inr rfl
    | cons c r =>
      cases r with
      | nil => exact .inl ⟨n, R, c, rfl, hR, rfl⟩
      | cons c2 r => exact .inr rfl
theorem up_delT (F : Nat) (k : K) {x : Tre} (h : UpT x) : UpT (delT F k x) := by
  have hp := remove_up F k x.n x.T h
  unfold delT
  rcases fall_cases ⟨x.n, remove F k x.n x.T⟩ with ⟨n, R, c, e, hR, hf⟩ | hf
  · rw [hf]
    have hU : UpT ⟨n + 1, R⟩ := by rw [← e]; exact hp
    exact hU.2 c (by rw [hR]; simp)
  · rw [hf]; exact hp
theorem up_putR (F : Nat) (k v : K) {x : Tre} (h : UpT x) : UpT (putR F k v x) := by
  unfold putR putS
  split
  · split
    · exact h
    · exact up_putT F k v h
  · exact h
theorem up_delS (F : Nat) (k : K) {x : Tre} (h : UpT x) : UpT (delS F k x) := by
  unfold delS
  split
  · exact up_delT F k h
  · exact h
theorem up_bld (F : Nat) : ∀ (l : List Nw) (x : Tre), UpT x → UpT (bld F l x).1
  | [], _, h => h
  | y :: l, x, h => by
    rw [bld]
    split
    · exact up_bld F l _ (up_delS F y.k h)
    · split
      · exact up_bld F l _ (up_putR F y.k y.v h)
      · exact h
theorem cl_wipeT {x : Tre} (h : UpT x) : Cl (x.n + 1) (wipeT x).T := wipe_cl _ _ h
theorem wipe_d {n : Nat} (t : El (n + 1)) : (wipe (n + 1) t).d = false := by
  have ew : wipe (n + 1) t = if t.d then .nd false (t.l.map (wipe n)) else t := rfl
  rw [ew]
  split
  · rfl
  · rename_i h; simpa using h
theorem wipe_again (x : Tre) : wipeT (wipeT x) = wipeT x := by
  unfold wipeT
  have ew : ∀ t : El (x.n + 1), t.d = false → wipe (x.n + 1) t = t := fun t ht => by
    have : wipe (x.n + 1) t = if t.d then .nd false (t.l.map (wipe x.n)) else t := rfl
    rw [this, ht]; rfl
  rw [ew _ (wipe_d x.T)]
theorem cnt_wiped (x : Tre) : cntT (wipeT x) = 0 := by
  have : cntT (wipeT x) = if (wipe (x.n + 1) x.T).d then 1 + ((wipe (x.n + 1) x.T).l.map (cnt x.n)).sum else 0 := rfl
  rw [this, wipe_d]; rfl
/-- So many of all levels. -/
def sumT (x : Tre) : Nat := ((List.range (x.n + 1)).map fun j => dirt (x.n + 1) x.T j).sum
theorem cnt_sum {x : Tre} (h : UpT x) : cntT x = sumT x := cnt_dirt _ _ h
theorem sum_cl {x : Tre} (h : Cl (x.n + 1) x.T) : sumT x = 0 := sum_zero _ _ fun j _ => h j
theorem sum_d {x : Tre} (h : UpT x) (hd : x.T.d = true) : sumT x ≠ 0 := by
  rw [← cnt_sum h]
  have : cntT x = if x.T.d then 1 + (x.T.l.map (cnt x.n)).sum else 0 := rfl
  rw [this, hd]; simp
theorem look_ins (k v : K) : ∀ (l : List KV), look k (ins k v l) = some v
  | [] => by simp [ins, look]
  | x :: r => by
    rw [ins]
    split
    · rename_i h
      rw [look, if_neg (klt_ne h), look_ins k v r]
    · split
      · simp [look]
      · simp [look]
theorem look_del (k : K) (l : List KV) : look k (del k l) = none := by
  cases e : look k (del k l) with
  | none => rfl
  | some v =>
    have := (look_mem k _).1 ⟨v, e⟩
    obtain ⟨z, hz, ez⟩ := List.mem_map.1 this
    unfold del at hz
    have := (List.mem_filter.1 hz).2
    simp at this
    exact absurd ez this
theorem grow_cases (F : Nat) (k v : K) (x : Tre) : putT F k v x = ⟨x.n + 1, .nd true [halfL (put F k v x.n x.T), halfR (put F k v x.n x.T)]⟩ ∨ putT F k v x = ⟨x.n, put F k v x.n x.T⟩ := by
  unfold putT growT
  by_cases h : F < (put F k v x.n x.T).l.length
  · exact .inl (if_pos h)
  · exact .inr (if_neg h)
/-- What one change does. -/
structure Once (F : Nat) (k : K) (x y : Tre) : Prop where
  inv : InvT F y
  up : UpT y
  len : y.all.length ≤ x.all.length + 1
  few : ∀ j, j < y.n + 1 → dirt (y.n + 1) y.T j ≤ if j < x.n + 1 then 3 else 1
  none : look k x.all = look k y.all → sumT y = 0
  some : look k x.all ≠ look k y.all → sumT y ≠ 0
theorem once_same {F : Nat} {k : K} {x : Tre} (hI : InvT F x) (hU : UpT x) (hC : Cl (x.n + 1) x.T) : Once F k x x :=
  ⟨hI, hU, by omega, fun j _ => by rw [hC j]; exact Nat.zero_le _, fun _ => sum_cl hC, fun h => absurd rfl h⟩
theorem once_put {F : Nat} (hF : 4 ≤ F) (k v : K) {x : Tre} (hI : InvT F x) (hU : UpT x) (hC : Cl (x.n + 1) x.T) : Once F k x (putR F k v x) := by
  unfold putR
  split
  · unfold putS
    split
    · exact once_same hI hU hC
    · rename_i hne
      obtain ⟨h1, h2⟩ := inv_put hF k v hI
      have hU2 := up_putT F k v hU
      have hl : look k (putT F k v x).all = Option.some v := by rw [h2]; exact look_ins k v _
      have hpd := put_dirt F k v x.n x.T hC
      refine ⟨h1, hU2, by rw [h2]; exact ins_len_le k v hI.good.srt, fun j hj => ?_, fun e => absurd (e.trans hl) hne, fun _ => sum_d hU2 ?_⟩
      · rcases grow_cases F k v x with e0 | e0
        · rw [e0] at hj ⊢
          replace hj : j < x.n + 1 + 1 := hj
          show dirt (x.n + 2) (.nd true [halfL (put F k v x.n x.T), halfR (put F k v x.n x.T)]) j ≤ _
          rw [dirt_succ, El.d_nd, El.l_nd]
          by_cases e : j = x.n + 1
          · rw [if_pos e, if_pos rfl, if_neg (by omega)]; exact Nat.le_refl 1
          · rw [if_neg e, dirts_cons, dirts_cons, dirts_nil]
            rw [if_pos (by omega)]
            by_cases hjn : j = x.n
            · have q : ∀ t : El (x.n + 1), dirt (x.n + 1) t x.n ≤ 1 := fun t => by rw [dirt_succ, if_pos rfl]; split <;> omega
              rw [hjn]
              have := q (halfL (put F k v x.n x.T)); have := q (halfR (put F k v x.n x.T)); omega
            · have := dirts_half (put F k v x.n x.T) j hjn
              have q := hpd j
              rw [if_neg hjn] at q
              omega
        · rw [e0] at hj ⊢
          show dirt (x.n + 1) (put F k v x.n x.T) j ≤ _
          have q := hpd j
          replace hj : j < x.n + 1 := hj
          rw [if_pos hj]
          split at q <;> omega
      · rcases grow_cases F k v x with e0 | e0
        · rw [e0]; rfl
        · rw [e0]; exact put_d F k v x.n x.T
  · exact once_same hI hU hC
theorem putIn_one {n F i : Nat} {l : List (El (n + 1))} {m c : El (n + 1)} (hi : i < l.length) (h : putIn F i l m = [c]) : c = m := by
  unfold putIn at h
  split at h
  · have := congrArg List.length h
    simp at this
    omega
  · have e := congrArg List.length h
    rw [List.length_set] at e
    have hi0 : i = 0 := by simp at e; omega
    subst hi0
    cases l with
    | nil => simp at hi
    | cons a r => simp at h; exact h.1.symm
theorem takeIn_one {n F i : Nat} {l : List (El (n + 1))} {c d : El (n + 1)} (hl : 2 ≤ l.length) (h : takeIn F i l c = [d]) : d.d = true := by
  unfold takeIn at h
  split at h
  · unfold joined at h
    split at h
    · rename_i a b ha hb
      have h1 := (List.getElem?_eq_some_iff.1 ha).1
      have h2 := (List.getElem?_eq_some_iff.1 hb).1
      rw [putIn_one (by rw [List.length_append, List.length_take]; omega) h]
      rfl
    · have := congrArg List.length h
      rw [List.length_set] at this
      simp at this; omega
  · have := congrArg List.length h
    rw [List.length_set] at this
    simp at this; omega
theorem once_del {F : Nat} (hF : 4 ≤ F) (k : K) {x : Tre} (hI : InvT F x) (hU : UpT x) (hC : Cl (x.n + 1) x.T) : Once F k x (delS F k x) := by
  unfold delS
  split
  · rename_i hk
    have hm := (look_mem k _).1 (Option.isSome_iff_exists.1 hk)
    obtain ⟨h1, h2⟩ := inv_del hF k hI hm
    have hU2 := up_delT F k hU
    have hl : look k (delT F k x).all = Option.none := by rw [h2]; exact look_del k _
    have hrd := remove_dirt F k x.n x.T hC
    refine ⟨h1, hU2, ?_, fun j hj => ?_, fun e => ?_, fun _ => sum_d hU2 ?_⟩
    · rw [h2]; exact Nat.le_trans (List.length_filter_le _ _) (by omega)
    · unfold delT at hj ⊢
      rcases fall_cases ⟨x.n, remove F k x.n x.T⟩ with ⟨n, R, c, e, hR, hf⟩ | hf
      · rw [hf] at hj ⊢
        have en : x.n = n + 1 := congrArg Tre.n e
        replace hj : j < n + 1 := hj
        rw [if_pos (by omega)]
        have q : dirt (x.n + 1) (remove F k x.n x.T) j = dirt (n + 2) R j := by
          have : ∀ y : Tre, y = ⟨n + 1, R⟩ → dirt (y.n + 1) y.T j = dirt (n + 2) R j := fun y hy => by rw [hy]
          exact this _ e
        have q2 := hrd j
        rw [q, dirt_succ, if_neg (by omega), hR, dirts_cons, dirts_nil] at q2
        show dirt (n + 1) c j ≤ 3
        split at q2 <;> omega
      · rw [hf] at hj ⊢
        replace hj : j < x.n + 1 := hj
        rw [if_pos hj]
        have q2 := hrd j
        show dirt (x.n + 1) (remove F k x.n x.T) j ≤ 3
        split at q2 <;> omega
    · rw [hl] at e; rw [e] at hk; cases hk
    · unfold delT
      rcases fall_cases ⟨x.n, remove F k x.n x.T⟩ with ⟨n, R, c, e, hR, hf⟩ | hf
      · rw [hf]
        show c.d = true
        obtain ⟨xn, xT⟩ := x
        cases xn with
        | zero => exact absurd (congrArg Tre.n e) (by simp)
        | succ m =>
          have en : m = n := by have := congrArg Tre.n e; simpa using this
          subst en
          have eR : remove F k (m + 1) xT = R := by
            have := e
            simp at this
            exact this
          have h2l : 2 ≤ xT.l.length := hI.two (by show 0 < m + 1; omega)
          have er : remove F k (m + 1) xT = match xT.l[place k xT.l]? with | Option.none => .nd true xT.l | Option.some c => .nd true (takeIn F (place k xT.l) xT.l (remove F k m c)) := rfl
          rw [er] at eR
          split at eR
          · rw [← eR, El.l_nd] at hR; rw [hR] at h2l; simp at h2l
          · rw [← eR, El.l_nd] at hR
            exact takeIn_one h2l hR
      · rw [hf]; exact remove_d F k x.n x.T
  · exact once_same hI hU hC
end Go.Proofs.Ytpflacbinankmaa.Bt
