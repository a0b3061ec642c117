/-
  What one change of a clean tree makes dirty.
  A tree's shapes, row by row: they fall by one, nodes and keys go together, keys stand right, dirt goes up.
-/
import Derived.Test.YtlfgeanafidopaaQX
import Derived.Test.YtlfgeanafidopaaRL
namespace Go.Proofs.Ytlfgeanafidopaa.Bt
open Go.RowKit
set_option maxRecDepth 10000

theorem up0 (e : El 0) : Up 0 e := trivial
theorem half_up {n : Nat} {c : El (n + 1)} (h : Up (n + 1) c) (hd : c.d = true) : Up (n + 1) (halfL c) ∧ Up (n + 1) (halfR c) := by
  unfold halfL halfR
  rw [hd]
  exact ⟨up_nd fun e he => h.2 e (List.mem_of_mem_take he), up_nd fun e he => h.2 e (List.mem_of_mem_drop he)⟩
theorem putIn_up {n : Nat} (F i : Nat) {l : List (El (n + 1))} {c : El (n + 1)} (hl : ∀ e ∈ l, Up (n + 1) e) (hc : Up (n + 1) c) (hd : c.d = true) : ∀ e ∈ putIn F i l c, Up (n + 1) e := by
  intro e he
  unfold putIn at he
  split at he
  · obtain ⟨u1, u2⟩ := half_up hc hd
    rcases List.mem_append.1 he with he | he
    · exact hl e (List.mem_of_mem_take he)
    · rcases List.mem_cons.1 he with rfl | he
      · exact u1
      · rcases List.mem_cons.1 he with rfl | he
        · exact u2
        · exact hl e (List.mem_of_mem_drop he)
  · rcases List.mem_or_eq_of_mem_set he with he | rfl
    · exact hl e he
    · exact hc
theorem put_d (F : Nat) (k v : K) (n : Nat) (T : El (n + 1)) : (put F k v n T).d = true := by
  cases n with
  | zero => rfl
  | succ n =>
    have e : put F k v (n + 1) T = match T.l[place k T.l]? with | none => .nd true T.l | some c => .nd true (putIn F (place k T.l) T.l (put F k v n c)) := rfl
    rw [e]
    split <;> rfl
theorem put_up (F : Nat) (k v : K) : ∀ (n : Nat) (T : El (n + 1)), Up (n + 1) T → Up (n + 1) (put F k v n T)
  | 0, T, _ => up_nd fun e _ => up0 e
  | n + 1, T, h => by
    have e : put F k v (n + 1) T = match T.l[place k T.l]? with | none => .nd true T.l | some c => .nd true (putIn F (place k T.l) T.l (put F k v n c)) := rfl
    rw [e]
    split
    · exact up_nd h.2
    · rename_i c hc
      exact up_nd (putIn_up F _ h.2 (put_up F k v n c (h.2 c (List.mem_of_getElem? hc))) (put_d F k v n c))
theorem remove_d (F : Nat) (k : K) (n : Nat) (T : El (n + 1)) : (remove F k n T).d = true := by
  cases n with
  | zero => rfl
  | succ n =>
    have e : remove F k (n + 1) T = match T.l[place k T.l]? with | none => .nd true T.l | some c => .nd true (takeIn F (place k T.l) T.l (remove F k n c)) := rfl
    rw [e]
    split <;> rfl
theorem joined_up {n : Nat} (F i : Nat) {l : List (El (n + 1))} (hl : ∀ e ∈ l, Up (n + 1) e) : ∀ e ∈ joined F i l, Up (n + 1) e := by
  unfold joined
  split
  · rename_i a b ha hb
    refine putIn_up F i (fun e he => ?_) (up_nd fun e he => ?_) rfl
    · rcases List.mem_append.1 he with he | he
      · exact hl e (List.mem_of_mem_take he)
      · exact hl e (List.mem_of_mem_drop he)
    · rcases List.mem_append.1 he with he | he
      · exact (hl a (List.mem_of_getElem? ha)).2 e he
      · exact (hl b (List.mem_of_getElem? hb)).2 e he
  · exact hl
theorem remove_up (F : Nat) (k : K) : ∀ (n : Nat) (T : El (n + 1)), Up (n + 1) T → Up (n + 1) (remove F k n T)
  | 0, T, _ => up_nd fun e _ => up0 e
  | n + 1, T, h => by
    have e : remove F k (n + 1) T = match T.l[place k T.l]? with | none => .nd true T.l | some c => .nd true (takeIn F (place k T.l) T.l (remove F k n c)) := rfl
    rw [e]
    split
    · exact up_nd h.2
    · rename_i c hc
      refine up_nd ?_
      have hs : ∀ e ∈ T.l.set (place k T.l) (remove F k n c), Up (n + 1) e := fun e he => by
        rcases List.mem_or_eq_of_mem_set he with he | rfl
        · exact h.2 e he
        · exact remove_up F k n c (h.2 c (List.mem_of_getElem? hc))
      unfold takeIn
      split
      · exact joined_up F _ hs
      · exact hs
def UpT (x : Tre) : Prop := Up (x.n + 1) x.T
theorem up_tre0 : UpT tre0 := up_nd fun e he => (by cases he)
theorem up_putT (F : Nat) (k v : K) {x : Tre} (h : UpT x) : UpT (putT F k v x) := by
  have hp := put_up F k v x.n x.T h
  unfold putT growT
  split
  · obtain ⟨u1, u2⟩ := half_up hp (put_d F k v x.n x.T)
    refine up_nd fun e he => ?_
    simp only [List.mem_cons, List.not_mem_nil, or_false] at he
    rcases he with rfl | rfl
    · exact u1
    · exact u2
  · exact hp
theorem fall_cases (x : Tre) : (∃ (n : Nat) (R : El (n + 2)) (c : El (n + 1)), x = ⟨n + 1, R⟩ ∧ R.l = [c] ∧ fallT x = ⟨n, c⟩) ∨ fallT x = x := by
  obtain ⟨n, R⟩ := x
  cases n with
  | zero => exact .inr rfl
  | succ n =>
    have e : fallT ⟨n + 1, R⟩ = match R.l with | [c] => (⟨n, c⟩ : Tre) | _ => ⟨n + 1, R⟩ := rfl
    rw [e]
    cases hR : R.l with
    | nil => exact .inr rfl
    | cons c r =>
      cases r with
      | nil => exact .inl ⟨n, R, c, rfl, hR, rfl⟩
      | cons c2 r => exact .inr rfl
theorem up_delT (F : Nat) (k : K) {x : Tre} (h : UpT x) : UpT (delT F k x) := by
  have hp := remove_up F k x.n x.T h
  unfold delT
  rcases fall_cases ⟨x.n, remove F k x.n x.T⟩ with ⟨n, R, c, e, hR, hf⟩ | hf
  · rw [hf]
    have hU : UpT ⟨n + 1, R⟩ := by rw [← e]; exact hp
    exact hU.2 c (by rw [hR]; simp)
  · rw [hf]; exact hp
theorem up_putR (F : Nat) (k v : K) {x : Tre} (h : UpT x) : UpT (putR F k v x) := by
  unfold putR putS
  split
  · split
    · exact h
    · exact up_putT F k v h
  · exact h
theorem up_delS (F : Nat) (k : K) {x : Tre} (h : UpT x) : UpT (delS F k x) := by
  unfold delS
  split
  · exact up_delT F k h
  · exact h
theorem up_bld (F : Nat) : ∀ (l : List Nw) (x : Tre), UpT x → UpT (bld F l x).1
  | [], _, h => h
  | y :: l, x, h => by
    rw [bld]
    split
    · exact up_bld F l _ (up_delS F y.k h)
    · split
      · exact up_bld F l _ (up_putR F y.k y.v h)
      · exact h
theorem cl_wipeT {x : Tre} (h : UpT x) : Cl (x.n + 1) (wipeT x).T := wipe_cl _ _ h
theorem wipe_d {n : Nat} (t : El (n + 1)) : (wipe (n + 1) t).d = false := by
  have ew : wipe (n + 1) t = if t.d then .nd false (t.l.map (wipe n)) else t := rfl
  rw [ew]
  split
  · rfl
  · rename_i h; simpa using h
theorem wipe_again (x : Tre) : wipeT (wipeT x) = wipeT x := by
  unfold wipeT
  have ew : ∀ t : El (x.n + 1), t.d = false → wipe (x.n + 1) t = t := fun t ht => by
    have : wipe (x.n + 1) t = if t.d then .nd false (t.l.map (wipe x.n)) else t := rfl
    rw [this, ht]; rfl
  rw [ew _ (wipe_d x.T)]
theorem cnt_wiped (x : Tre) : cntT (wipeT x) = 0 := by
  have : cntT (wipeT x) = if (wipe (x.n + 1) x.T).d then 1 + ((wipe (x.n + 1) x.T).l.map (cnt x.n)).sum else 0 := rfl
  rw [this, wipe_d]; rfl
/-- So many of all levels. -/
def sumT (x : Tre) : Nat := ((List.range (x.n + 1)).map fun j => dirt (x.n + 1) x.T j).sum
theorem cnt_sum {x : Tre} (h : UpT x) : cntT x = sumT x := cnt_dirt _ _ h
theorem sum_cl {x : Tre} (h : Cl (x.n + 1) x.T) : sumT x = 0 := sum_zero _ _ fun j _ => h j
theorem sum_d {x : Tre} (h : UpT x) (hd : x.T.d = true) : sumT x ≠ 0 := by
  rw [← cnt_sum h]
  have : cntT x = if x.T.d then 1 + (x.T.l.map (cnt x.n)).sum else 0 := rfl
  rw [this, hd]; simp
theorem look_ins (k v : K) : ∀ (l : List KV), look k (ins k v l) = some v
  | [] => by simp [ins, look]
  | x :: r => by
    rw [ins]
    split
    · rename_i h
      rw [look, if_neg (klt_ne h), look_ins k v r]
    · split
      · simp [look]
      · simp [look]
theorem look_del (k : K) (l : List KV) : look k (del k l) = none := by
  cases e : look k (del k l) with
  | none => rfl
  | some v =>
    have := (look_mem k _).1 ⟨v, e⟩
    obtain ⟨z, hz, ez⟩ := List.mem_map.1 this
    unfold del at hz
    have := (List.mem_filter.1 hz).2
    simp at this
    exact absurd ez this
theorem grow_cases (F : Nat) (k v : K) (x : Tre) : putT F k v x = ⟨x.n + 1, .nd true [halfL (put F k v x.n x.T), halfR (put F k v x.n x.T)]⟩ ∨ putT F k v x = ⟨x.n, put F k v x.n x.T⟩ := by
  unfold putT growT
  by_cases h : F < (put F k v x.n x.T).l.length
  · exact .inl (if_pos h)
  · exact .inr (if_neg h)
/-- What one change does. -/
structure Once (F : Nat) (k : K) (x y : Tre) : Prop where
  inv : InvT F y
  up : UpT y
  len : y.all.length ≤ x.all.length + 1
  few : ∀ j, j < y.n + 1 → dirt (y.n + 1) y.T j ≤ if j < x.n + 1 then 3 else 1
  none : look k x.all = look k y.all → sumT y = 0
  some : look k x.all ≠ look k y.all → sumT y ≠ 0
theorem once_same {F : Nat} {k : K} {x : Tre} (hI : InvT F x) (hU : UpT x) (hC : Cl (x.n + 1) x.T) : Once F k x x :=
  ⟨hI, hU, by omega, fun j _ => by rw [hC j]; exact Nat.zero_le _, fun _ => sum_cl hC, fun h => absurd rfl h⟩
theorem once_put {F : Nat} (hF : 4 ≤ F) (k v : K) {x : Tre} (hI : InvT F x) (hU : UpT x) (hC : Cl (x.n + 1) x.T) : Once F k x (putR F k v x) := by
  unfold putR
  split
  · unfold putS
    split
    · exact once_same hI hU hC
    · rename_i hne
      obtain ⟨h1, h2⟩ := inv_put hF k v hI
      have hU2 := up_putT F k v hU
      have hl : look k (putT F k v x).all = Option.some v := by rw [h2]; exact look_ins k v _
      have hpd := put_dirt F k v x.n x.T hC
      refine ⟨h1, hU2, by rw [h2]; exact ins_len_le k v hI.good.srt, fun j hj => ?_, fun e => absurd (e.trans hl) hne, fun _ => sum_d hU2 ?_⟩
      · rcases grow_cases F k v x with e0 | e0
        · rw [e0] at hj ⊢
          replace hj : j < x.n + 1 + 1 := hj
          show dirt (x.n + 2) (.nd true [halfL (put F k v x.n x.T), halfR (put F k v x.n x.T)]) j ≤ _
          rw [dirt_succ, El.d_nd, El.l_nd]
          by_cases e : j = x.n + 1
          · rw [if_pos e, if_pos rfl, if_neg (by omega)]; exact Nat.le_refl 1
          · rw [if_neg e, dirts_cons, dirts_cons, dirts_nil]
            rw [if_pos (by omega)]
            by_cases hjn : j = x.n
            · have q : ∀ t : El (x.n + 1), dirt (x.n + 1) t x.n ≤ 1 := fun t => by rw [dirt_succ, if_pos rfl]; split <;> omega
              rw [hjn]
              have := q (halfL (put F k v x.n x.T)); have := q (halfR (put F k v x.n x.T)); omega
            · have := dirts_half (put F k v x.n x.T) j hjn
              have q := hpd j
              rw [if_neg hjn] at q
              omega
        · rw [e0] at hj ⊢
          show dirt (x.n + 1) (put F k v x.n x.T) j ≤ _
          have q := hpd j
          replace hj : j < x.n + 1 := hj
          rw [if_pos hj]
          split at q <;> omega
      · rcases grow_cases F k v x with e0 | e0
        · rw [e0]; rfl
        · rw [e0]; exact put_d F k v x.n x.T
  · exact once_same hI hU hC
theorem putIn_one {n F i : Nat} {l : List (El (n + 1))} {m c : El (n + 1)} (hi : i < l.length) (h : putIn F i l m = [c]) : c = m := by
  unfold putIn at h
  split at h
  · have := congrArg List.length h
    simp at this
    omega
  · have e := congrArg List.length h
    rw [List.length_set] at e
    have hi0 : i = 0 := by simp at e; omega
    subst hi0
    cases l with
    | nil => simp at hi
    | cons a r => simp at h; exact h.1.symm
theorem takeIn_one {n F i : Nat} {l : List (El (n + 1))} {c d : El (n + 1)} (hl : 2 ≤ l.length) (h : takeIn F i l c = [d]) : d.d = true := by
  unfold takeIn at h
  split at h
  · unfold joined at h
    split at h
    · rename_i a b ha hb
      have h1 := (List.getElem?_eq_some_iff.1 ha).1
      have h2 := (List.getElem?_eq_some_iff.1 hb).1
      rw [putIn_one (by rw [List.length_append, List.length_take]; omega) h]
      rfl
    · have := congrArg List.length h
      rw [List.length_set] at this
      simp at this; omega
  · have := congrArg List.length h
    rw [List.length_set] at this
    simp at this; omega
theorem once_del {F : Nat} (hF : 4 ≤ F) (k : K) {x : Tre} (hI : InvT F x) (hU : UpT x) (hC : Cl (x.n + 1) x.T) : Once F k x (delS F k x) := by
  unfold delS
  split
  · rename_i hk
    have hm := (look_mem k _).1 (Option.isSome_iff_exists.1 hk)
    obtain ⟨h1, h2⟩ := inv_del hF k hI hm
    have hU2 := up_delT F k hU
    have hl : look k (delT F k x).all = Option.none := by rw [h2]; exact look_del k _
    have hrd := remove_dirt F k x.n x.T hC
    refine ⟨h1, hU2, ?_, fun j hj => ?_, fun e => ?_, fun _ => sum_d hU2 ?_⟩
    · rw [h2]; exact Nat.le_trans (List.length_filter_le _ _) (by omega)
    · unfold delT at hj ⊢
      rcases fall_cases ⟨x.n, remove F k x.n x.T⟩ with ⟨n, R, c, e, hR, hf⟩ | hf
      · rw [hf] at hj ⊢
        have en : x.n = n + 1 := congrArg Tre.n e
        replace hj : j < n + 1 := hj
        rw [if_pos (by omega)]
        have q : dirt (x.n + 1) (remove F k x.n x.T) j = dirt (n + 2) R j := by
          have : ∀ y : Tre, y = ⟨n + 1, R⟩ → dirt (y.n + 1) y.T j = dirt (n + 2) R j := fun y hy => by rw [hy]
          exact this _ e
        have q2 := hrd j
        rw [q, dirt_succ, if_neg (by omega), hR, dirts_cons, dirts_nil] at q2
        show dirt (n + 1) c j ≤ 3
        split at q2 <;> omega
      · rw [hf] at hj ⊢
        replace hj : j < x.n + 1 := hj
        rw [if_pos hj]
        have q2 := hrd j
        show dirt (x.n + 1) (remove F k x.n x.T) j ≤ 3
        split at q2 <;> omega
    · rw [hl] at e; rw [e] at hk; cases hk
    · unfold delT
      rcases fall_cases ⟨x.n, remove F k x.n x.T⟩ with ⟨n, R, c, e, hR, hf⟩ | hf
      · rw [hf]
        show c.d = true
        obtain ⟨xn, xT⟩ := x
        cases xn with
        | zero => exact absurd (congrArg Tre.n e) (by simp)
        | succ m =>
          have en : m = n := by have := congrArg Tre.n e; simpa using this
          subst en
          have eR : remove F k (m + 1) xT = R := by
            have := e
            simp at this
            exact this
          have h2l : 2 ≤ xT.l.length := hI.two (by show 0 < m + 1; omega)
          have er : remove F k (m + 1) xT = match xT.l[place k xT.l]? with | Option.none => .nd true xT.l | Option.some c => .nd true (takeIn F (place k xT.l) xT.l (remove F k m c)) := rfl
          rw [er] at eR
          split at eR
          · rw [← eR, El.l_nd] at hR; rw [hR] at h2l; simp at h2l
          · rw [← eR, El.l_nd] at hR
            exact takeIn_one h2l hR
      · rw [hf]; exact remove_d F k x.n x.T
  · exact once_same hI hU hC
end Go.Proofs.Ytlfgeanafidopaa.Bt
namespace Go.Proofs.Ytlfgeanafidopaa.Bt
open Go.RowKit Go.Shelf
set_option maxRecDepth 10000

def rowsS : (n : Nat) → List (El (n + 1)) → List (List Shp)
  | 0, l => [l.map (shp 0)]
  | n + 1, l => l.map (shp (n + 1)) :: rowsS n (l.flatMap El.l)
theorem rowsS_flat : ∀ (n : Nat) (l : List (El (n + 1))), (rowsS n l).flatten = shps n l
  | 0, l => by simp [rowsS, shps]
  | n + 1, l => by rw [rowsS, List.flatten_cons, rowsS_flat n]; rfl
theorem rowsS_len : ∀ (n : Nat) (l : List (El (n + 1))), (rowsS n l).length = n + 1
  | 0, _ => rfl
  | n + 1, _ => by rw [rowsS, List.length_cons, rowsS_len n]
theorem rowsS_head : ∀ (n : Nat) (l : List (El (n + 1))), ∃ rs, rowsS n l = l.map (shp n) :: rs
  | 0, _ => ⟨[], rfl⟩
  | _ + 1, _ => ⟨_, rfl⟩
/-- A list that is another one's parts put together, parted likewise. -/
theorem unflat : ∀ (P : List (List Shp)) (S : List Shc), S.map Shc.s = P.flatten → ∃ RR : List (List Shc), RR.map (List.map Shc.s) = P ∧ RR.flatten = S
  | [], S, h => ⟨[], rfl, by
      have : S = [] := by cases S with
        | nil => rfl
        | cons a b => simp at h
      rw [this]; rfl⟩
  | p :: P, S, h => by
    rw [List.flatten_cons] at h
    have h1 : (S.take p.length).map Shc.s = p := by rw [List.map_take, h, List.take_left]
    have h2 : (S.drop p.length).map Shc.s = P.flatten := by rw [List.map_drop, h, List.drop_left]
    obtain ⟨RR, q1, q2⟩ := unflat P _ h2
    exact ⟨S.take p.length :: RR, by rw [List.map_cons, h1, q1], by rw [List.flatten_cons, q2, List.take_append_drop]⟩
/-- The leaves of a level's nodes. -/
def leafs : (n : Nat) → List (El (n + 1)) → List (El 1)
  | 0, l => l
  | n + 1, l => leafs n (l.flatMap El.l)
theorem leafs_append : ∀ (n : Nat) (a b : List (El (n + 1))), leafs n (a ++ b) = leafs n a ++ leafs n b
  | 0, _, _ => rfl
  | n + 1, a, b => by
    show leafs n ((a ++ b).flatMap El.l) = leafs n (a.flatMap El.l) ++ leafs n (b.flatMap El.l)
    rw [List.flatMap_append, leafs_append n]
theorem flats_kids {n : Nat} (l : List (El (n + 1))) : flats (l.flatMap El.l) = flats l := by
  induction l with
  | nil => rfl
  | cons t l ih => rw [List.flatMap_cons, flats_append, ih, flats_cons, flat_succ]
theorem leafs_flats : ∀ (n : Nat) (l : List (El (n + 1))), flats (leafs n l) = flats l
  | 0, _ => rfl
  | n + 1, l => by show flats (leafs n (l.flatMap El.l)) = _; rw [leafs_flats n, flats_kids]
theorem rowsS_last : ∀ (n : Nat) (l : List (El (n + 1))), (rowsS n l)[n]? = some ((leafs n l).map (shp 0))
  | 0, l => rfl
  | n + 1, l => by rw [rowsS, List.getElem?_cons_succ, rowsS_last n]; rfl
/-- A full node's first leaf begins with its first key. -/
theorem leafs_first {F : Nat} (hF : 4 ≤ F) : ∀ (n : Nat) (e : El (n + 1)), Fill F (n + 1) e → ∃ f rest x ks, leafs n [e] = f :: rest ∧ f.l = x :: ks ∧ ek 0 x = ek (n + 1) e
  | 0, e, h => by
    obtain ⟨h1, _, _⟩ := h
    cases hl : e.l with
    | nil => rw [hl] at h1; simp at h1; omega
    | cons x ks => exact ⟨e, [], x, ks, rfl, hl, by rw [ek.eq_def (0 + 1)]; simp [hl]⟩
  | n + 1, e, h => by
    obtain ⟨h1, _, h3⟩ := h
    cases hl : e.l with
    | nil => rw [hl] at h1; simp at h1; omega
    | cons c cs =>
      obtain ⟨f, rest, x, ks, q1, q2, q3⟩ := leafs_first hF n c (h3 c (by rw [hl]; simp))
      refine ⟨f, rest ++ leafs n cs, x, ks, ?_, q2, by rw [q3, ek.eq_def (n + 1 + 1)]; simp [hl]⟩
      show leafs n ([e].flatMap El.l) = _
      rw [List.flatMap_singleton, hl, show c :: cs = [c] ++ cs from rfl, leafs_append, q1]
      rfl
/-- The kids of a level's nodes are full. -/
def KidsFill (F n : Nat) (l : List (El (n + 1))) : Prop := ∀ e ∈ l, ∀ c ∈ e.l, Fill F n c
theorem kf_down {F n : Nat} {l : List (El (n + 2))} (h : KidsFill F (n + 1) l) : (∀ c ∈ l.flatMap El.l, Fill F (n + 1) c) ∧ KidsFill F n (l.flatMap El.l) := by
  have h1 : ∀ c ∈ l.flatMap El.l, Fill F (n + 1) c := fun c hc => by
    obtain ⟨e, he, hce⟩ := List.mem_flatMap.1 hc
    exact h e he c hce
  exact ⟨h1, fun c hc x hx => (h1 c hc).2.2 x hx⟩
/-- Leaves under full nodes have keys. -/
theorem leafs_full {F : Nat} : ∀ (n : Nat) (l : List (El (n + 1))), (∀ e ∈ l, Fill F (n + 1) e) → ∀ f ∈ leafs n l, F / 2 ≤ f.l.length
  | 0, _, h, f, hf => (h f hf).1
  | n + 1, l, h, f, hf => leafs_full n (l.flatMap El.l) (kf_down (fun e he c hc => (h e he).2.2 c hc)).1 f hf
/-- Keys of leaves rise from leaf to leaf. -/
theorem lf_rise {L : List (El 1)} (hs : Srt (flats L)) {i j : Nat} {f g : El 1} (hi : L[i]? = some f) (hj : L[j]? = some g) (hij : i < j) {a b : K} (ha : a ∈ f.l.map (ek 0)) (hb : b ∈ g.l.map (ek 0)) : klt a b = true := by
  rw [← List.take_append_drop (i + 1) L, flats_append] at hs
  obtain ⟨_, _, h3⟩ := srt_append.1 hs
  have m1 : f ∈ L.take (i + 1) := by
    refine List.mem_of_getElem? (i := i) ?_
    rw [List.getElem?_take, if_pos (by omega)]; exact hi
  have m2 : g ∈ L.drop (i + 1) := by
    refine List.mem_of_getElem? (i := j - (i + 1)) ?_
    rw [List.getElem?_drop, show i + 1 + (j - (i + 1)) = j by omega]; exact hj
  obtain ⟨x, hx, rfl⟩ := List.mem_map.1 ha
  obtain ⟨y, hy, rfl⟩ := List.mem_map.1 hb
  have key : ∀ {e : El 1} {z : El 0}, z ∈ e.l → z.pair ∈ flat 1 e := fun {e z} hz => by
    rw [flat_succ]; exact mem_flats.2 ⟨z, hz, by rw [flat]; simp⟩
  exact h3 x.pair (mem_flats.2 ⟨f, m1, key hx⟩) y.pair (mem_flats.2 ⟨g, m2, key hy⟩)
theorem cum_eq {r : List Shc} {n : Nat} {l : List (El (n + 1))} (h : r.map Shc.s = l.map (shp n)) (i : Nat) : cum r i = ((l.take i).flatMap El.l).length := by
  unfold cum
  have : (r.take i).map (fun s => s.s.ks.length) = (l.take i).map (fun t => t.l.length) := by
    have h1 : (r.take i).map Shc.s = (l.take i).map (shp n) := by rw [List.map_take, h, List.map_take]
    have h2 : (r.take i).map (fun s => s.s.ks.length) = ((r.take i).map Shc.s).map (fun s => s.ks.length) := by rw [List.map_map]; rfl
    rw [h2, h1, List.map_map]
    refine List.map_congr_left fun t _ => ?_
    show (t.l.map (ek n)).length = _
    rw [List.length_map]
  rw [this, List.length_flatMap]
theorem take_kids {n : Nat} (l : List (El (n + 1))) (i : Nat) : (l.flatMap El.l).take ((l.take i).flatMap El.l).length = (l.take i).flatMap El.l := by
  conv => lhs; rw [← List.take_append_drop i l, List.flatMap_append]
  simp
theorem fst_eq : ∀ (n : Nat) (l : List (El (n + 1))) (RR : List (List Shc)), RR.map (List.map Shc.s) = rowsS n l → fstL RR = (List.range (l.length + 1)).map fun i => (leafs n (l.take i)).length
  | 0, l, RR, h => by
    match RR, h with
    | [], h => simp [rowsS] at h
    | _ :: _ :: _, h => simp [rowsS] at h
    | [r], h =>
      simp only [List.map_cons, List.map_nil, rowsS, List.cons.injEq, and_true] at h
      have hl : r.length = l.length := by have := congrArg List.length h; simpa using this
      rw [fstL, hl]
      conv => lhs; rw [← List.map_id (List.range (l.length + 1))]
      refine List.map_congr_left fun i hi => ?_
      have := List.mem_range.1 hi
      show i = (l.take i).length
      rw [List.length_take]; omega
  | n + 1, l, RR, h => by
    obtain ⟨rs, hrs⟩ := rowsS_head n (l.flatMap El.l)
    match RR, h with
    | [], h => simp [rowsS] at h
    | [r], h => simp [rowsS, hrs] at h
    | r :: r2 :: RR', h =>
      rw [rowsS, List.map_cons, List.cons.injEq] at h
      obtain ⟨h1, h2⟩ := h
      have ih := fst_eq n (l.flatMap El.l) (r2 :: RR') h2
      have hl : r.length = l.length := by have := congrArg List.length h1; simpa using this
      rw [fstL, hl]
      refine List.map_congr_left fun i hi => ?_
      have hi' := List.mem_range.1 hi
      rw [cum_eq h1, ih]
      have hle : ((l.take i).flatMap El.l).length ≤ (l.flatMap El.l).length := by
        conv => rhs; rw [← List.take_append_drop i l, List.flatMap_append, List.length_append]
        omega
      rw [List.getD_eq_getElem?_getD, List.getElem?_map, List.getElem?_range (by omega)]
      show (leafs n ((l.flatMap El.l).take _)).length = (leafs n ((l.take i).flatMap El.l)).length
      rw [take_kids]
theorem map_cons_inv {RR : List (List Shc)} {p : List Shp} {P : List (List Shp)} (h : RR.map (List.map Shc.s) = p :: P) : ∃ r RR', RR = r :: RR' ∧ r.map Shc.s = p ∧ RR'.map (List.map Shc.s) = P := by
  cases RR with
  | nil => simp at h
  | cons r RR' =>
    rw [List.map_cons, List.cons.injEq] at h
    exact ⟨r, RR', rfl, h.1, h.2⟩
theorem get_map {r : List Shc} {n : Nat} {l : List (El (n + 1))} (h : r.map Shc.s = l.map (shp n)) {i : Nat} {s : Shc} (hs : r[i]? = some s) : ∃ e, l[i]? = some e ∧ s.s = shp n e := by
  have h1 : (r.map Shc.s)[i]? = some s.s := by rw [List.getElem?_map, hs]; rfl
  rw [h, List.getElem?_map] at h1
  cases hl : l[i]? with
  | none => rw [hl] at h1; cases h1
  | some e => rw [hl] at h1; exact ⟨e, rfl, by simpa using h1.symm⟩
theorem map_get {r : List Shc} {n : Nat} {l : List (El (n + 1))} (h : r.map Shc.s = l.map (shp n)) {i : Nat} {e : El (n + 1)} (he : l[i]? = some e) : ∃ s, r[i]? = some s ∧ s.s = shp n e := by
  have h1 : (l.map (shp n))[i]? = some (shp n e) := by rw [List.getElem?_map, he]; rfl
  rw [← h, List.getElem?_map] at h1
  cases hr : r[i]? with
  | none => rw [hr] at h1; cases h1
  | some s => rw [hr] at h1; exact ⟨s, rfl, by simpa using h1⟩
theorem row_len {r : List Shc} {n : Nat} {l : List (El (n + 1))} (h : r.map Shc.s = l.map (shp n)) : r.length = l.length := by
  have := congrArg List.length h
  simpa using this
theorem rows_lv {F : Nat} (hF : 4 ≤ F) : ∀ (n : Nat) (l : List (El (n + 1))), l ≠ [] → KidsFill F n l → (0 < n → ∀ e ∈ l, e.l ≠ []) → ∀ (k : Nat) (p : List Shp), (rowsS n l)[k]? = some p → p ≠ [] ∧ ∀ s ∈ p, s.lv + k = n
  | 0, l, h, _, _, k, p, hp => by
    cases k with
    | zero =>
      simp [rowsS] at hp
      subst hp
      exact ⟨by simpa using h, fun s hs => by obtain ⟨e, _, rfl⟩ := List.mem_map.1 hs; rfl⟩
    | succ k => simp [rowsS] at hp
  | n + 1, l, h, hk, hp1, k, p, hp => by
    cases k with
    | zero =>
      simp [rowsS] at hp
      subst hp
      exact ⟨by simpa using h, fun s hs => by obtain ⟨e, _, rfl⟩ := List.mem_map.1 hs; rfl⟩
    | succ k =>
      rw [rowsS, List.getElem?_cons_succ] at hp
      obtain ⟨q1, q2⟩ := kf_down hk
      have hne : l.flatMap El.l ≠ [] := by
        cases l with
        | nil => exact absurd rfl h
        | cons e l =>
          intro e0
          rw [List.flatMap_cons] at e0
          exact hp1 (by omega) e (by simp) (List.append_eq_nil_iff.1 e0).1
      obtain ⟨r1, r2⟩ := rows_lv hF n _ hne q2 (fun _ c hc e0 => by have := (q1 c hc).1; rw [e0] at this; simp at this; omega) k p hp
      exact ⟨r1, fun s hs => by have := r2 s hs; omega⟩
theorem rows_cnt {F : Nat} (hF : 4 ≤ F) : ∀ (n lo : Nat) (l : List (El (n + 1))), KidsFill F n l → Srt (flats l) → (∀ e ∈ l, lo ≤ e.l.length ∧ e.l.length ≤ F) → ∀ (k : Nat) (p : List Shp), (rowsS n l)[k]? = some p → ∀ s ∈ p, s.ks.length ≤ F ∧ (if k = 0 then lo else F / 2) ≤ s.ks.length ∧ Ksrt s.ks ∧ ∀ q ∈ s.ks, q ∈ (flats l).map Prod.fst := by
  intro n
  have top : ∀ (m lo : Nat) (l : List (El (m + 1))), KidsFill F m l → Srt (flats l) → (∀ e ∈ l, lo ≤ e.l.length ∧ e.l.length ≤ F) → ∀ s ∈ l.map (shp m), s.ks.length ≤ F ∧ lo ≤ s.ks.length ∧ Ksrt s.ks ∧ ∀ q ∈ s.ks, q ∈ (flats l).map Prod.fst := by
    intro m lo l hk hs hl s hs'
    obtain ⟨e, he, rfl⟩ := List.mem_map.1 hs'
    have hlen : (shp m e).ks.length = e.l.length := by show (e.l.map (ek m)).length = _; rw [List.length_map]
    have hh : ∀ c ∈ e.l, Hd1 m c := fun c hc => fill_hd hF m c (hk e he c hc)
    refine ⟨by rw [hlen]; exact (hl e he).2, by rw [hlen]; exact (hl e he).1, keys_srt e.l hh (srt_of_mem hs he), fun q hq => ?_⟩
    obtain ⟨c, hc, rfl⟩ := List.mem_map.1 hq
    obtain ⟨x, r, hx, hxk⟩ := hh c hc
    rw [← hxk]
    refine List.mem_map.2 ⟨x, mem_flats.2 ⟨e, he, ?_⟩, rfl⟩
    rw [flat_succ]
    exact mem_flats.2 ⟨c, hc, by rw [hx]; simp⟩
  induction n with
  | zero =>
    intro lo l hk hs hl k p hp s hs'
    cases k with
    | zero =>
      simp [rowsS] at hp
      subst hp
      rw [if_pos rfl]
      exact top 0 lo l hk hs hl s hs'
    | succ k => simp [rowsS] at hp
  | succ n ih =>
    intro lo l hk hs hl k p hp s hs'
    cases k with
    | zero =>
      simp [rowsS] at hp
      subst hp
      rw [if_pos rfl]
      exact top (n + 1) lo l hk hs hl s hs'
    | succ k =>
      rw [rowsS, List.getElem?_cons_succ] at hp
      obtain ⟨q1, q2⟩ := kf_down hk
      have := ih (F / 2) (l.flatMap El.l) q2 (by rw [flats_kids]; exact hs) (fun e he => ⟨(q1 e he).1, (q1 e he).2.1⟩) k p hp s hs'
      rw [flats_kids] at this
      obtain ⟨t1, t2, t3⟩ := this
      exact ⟨t1, by rw [if_neg (by omega)]; split at t2 <;> exact t2, t3⟩
theorem rows_kin : ∀ (n : Nat) (l : List (El (n + 1))) (RR : List (List Shc)), RR.map (List.map Shc.s) = rowsS n l → ∀ (k : Nat) (r r2 : List Shc), RR[k]? = some r → RR[k + 1]? = some r2 → cum r r.length = r2.length
  | 0, l, RR, h, k, r, r2, h1, h2 => by
    obtain ⟨r', RR', rfl, _, q⟩ := map_cons_inv h
    have : RR' = [] := by simpa using q
    subst this
    simp at h2
  | n + 1, l, RR, h, k, r, r2, h1, h2 => by
    obtain ⟨r', RR', rfl, q1, q2⟩ := map_cons_inv h
    cases k with
    | zero =>
      simp at h1
      subst h1
      obtain ⟨rs, hrs⟩ := rowsS_head n (l.flatMap El.l)
      rw [hrs] at q2
      obtain ⟨r3, RR3, rfl, q3, _⟩ := map_cons_inv q2
      simp at h2
      subst h2
      rw [cum_eq q1, row_len q3, row_len q1, List.take_length]
    | succ k =>
      rw [List.getElem?_cons_succ] at h1 h2
      exact rows_kin n _ RR' q2 k r r2 h1 h2
/-- What keyed asks at one key. -/
def KyP (r2 lv : List Shc) (fl : List Nat) (at' : Nat) (key : K) (dd : Bool) : Prop := ∃ lf s2 f k0 rest, fl[at']? = some lf ∧ r2[at']? = some s2 ∧ (s2.s.d = true → dd = true) ∧ lv[lf]? = some f ∧ f.s.ks = k0 :: rest ∧ klt k0 key = false ∧ (lf = 0 ∨ ∃ lf' f' kl, lf = lf' + 1 ∧ lv[lf']? = some f' ∧ f'.s.ks.getLast? = some kl ∧ klt kl key = true)
theorem kid_at {n : Nat} {l : List (El (n + 2))} {i j : Nat} {e : El (n + 2)} {c : El (n + 1)} (he : l[i]? = some e) (hc : e.l[j]? = some c) : (l.flatMap El.l)[((l.take i).flatMap El.l).length + j]? = some c := by
  obtain ⟨hi, e1⟩ := List.getElem?_eq_some_iff.1 he
  have hj := (List.getElem?_eq_some_iff.1 hc).1
  have h1 : l.flatMap El.l = (l.take i).flatMap El.l ++ (e.l ++ (l.drop (i + 1)).flatMap El.l) := by
    conv => lhs; rw [← List.take_append_drop i l, List.flatMap_append, List.drop_eq_getElem_cons hi, e1, List.flatMap_cons]
  rw [h1, List.getElem?_append_right (by omega), Nat.add_sub_cancel_left, List.getElem?_append_left hj]
  exact hc
theorem rows_key {F : Nat} (hF : 4 ≤ F) : ∀ (n : Nat) (l : List (El (n + 1))) (RR : List (List Shc)), RR.map (List.map Shc.s) = rowsS n l → KidsFill F n l → Srt (flats l) → (∀ e ∈ l, Up (n + 1) e) → ∀ lv, RR[n]? = some lv →
    ∀ (k : Nat) (r r2 : List Shc), RR[k]? = some r → RR[k + 1]? = some r2 → ∀ (i : Nat) (s : Shc), r[i]? = some s → ∀ (j : Nat) (key : K), s.s.ks[j]? = some key → KyP r2 lv (fstL (RR.drop (k + 1))) (cum r i + j) key s.s.d
  | 0, l, RR, h, _, _, _, lv, _, k, r, r2, h1, h2 => by
    obtain ⟨r', RR', rfl, _, q⟩ := map_cons_inv h
    have : RR' = [] := by simpa using q
    subst this
    simp at h2
  | n + 1, l, RR, h, hk, hs, hu, lv, hlv, k, r, r2, h1, h2 => by
    obtain ⟨r', RR', rfl, q1, q2⟩ := map_cons_inv h
    obtain ⟨f1, f2⟩ := kf_down hk
    rw [List.getElem?_cons_succ] at hlv
    have hs' : Srt (flats (l.flatMap El.l)) := by rw [flats_kids]; exact hs
    cases k with
    | succ k =>
      rw [List.getElem?_cons_succ] at h1 h2
      have := rows_key hF n _ RR' q2 f2 hs' (fun c hc => by
        obtain ⟨e, he, hce⟩ := List.mem_flatMap.1 hc
        exact ((up_succ e).1 (hu e he)).2 c hce) lv hlv k r r2 h1 h2
      simpa using this
    | zero =>
      intro i s hsi j key hkey
      simp at h1
      subst h1
      obtain ⟨e, he, hse⟩ := get_map q1 hsi
      have hkey' : (e.l.map (ek (n + 1)))[j]? = some key := by rw [hse] at hkey; exact hkey
      rw [List.getElem?_map] at hkey'
      cases hcj : e.l[j]? with
      | none => rw [hcj] at hkey'; cases hkey'
      | some c =>
        rw [hcj] at hkey'
        have hck : ek (n + 1) c = key := by simpa using hkey'
        have hat := kid_at he hcj
        rw [← cum_eq q1] at hat
        obtain ⟨at', hatE⟩ : ∃ at', at' = cum r' i + j := ⟨_, rfl⟩
        rw [← hatE] at hat ⊢
        have hatl := (List.getElem?_eq_some_iff.1 hat).1
        have hcm : c ∈ l.flatMap El.l := List.mem_of_getElem? hat
        obtain ⟨l', hl'⟩ : ∃ l', l' = l.flatMap El.l := ⟨_, rfl⟩
        rw [← hl'] at hat hatl hcm q2 f1 f2 hs'
        obtain ⟨rs, hrs⟩ := rowsS_head n l'
        have q2' := q2
        rw [hrs] at q2'
        obtain ⟨r3, RR3, eRR, q3, _⟩ := map_cons_inv q2'
        have er3 : r3 = r2 := by rw [eRR] at h2; simpa using h2
        subst er3
        obtain ⟨s2, hs2, hs2e⟩ := map_get q3 hat
        have hfl := fst_eq n l' RR' q2
        have hlvm : lv.map Shc.s = (leafs n l').map (shp 0) := by
          have := rowsS_last n l'
          rw [← q2, List.getElem?_map, hlv] at this
          simpa using this
        obtain ⟨f0, rest0, x, ks0, g1, g2, g3⟩ := leafs_first hF n c (f1 c hcm)
        have hsplit : l' = l'.take at' ++ ([c] ++ l'.drop (at' + 1)) := by
          obtain ⟨_, ee⟩ := List.getElem?_eq_some_iff.1 hat
          conv => lhs; rw [← List.take_append_drop at' l', List.drop_eq_getElem_cons hatl, ee]
          rfl
        have hL : leafs n l' = leafs n (l'.take at') ++ ((f0 :: rest0) ++ leafs n (l'.drop (at' + 1))) := by
          conv => lhs; rw [hsplit, leafs_append, leafs_append, g1]
        have hf0 : (leafs n l')[(leafs n (l'.take at')).length]? = some f0 := by
          rw [hL, List.getElem?_append_right (Nat.le_refl _), Nat.sub_self]
          rfl
        obtain ⟨f, hf, hfe⟩ := map_get hlvm hf0
        have hfks : f.s.ks = ek 0 x :: ks0.map (ek 0) := by rw [hfe]; show f0.l.map (ek 0) = _; rw [g2]; rfl
        refine ⟨(leafs n (l'.take at')).length, s2, f, ek 0 x, ks0.map (ek 0), ?_, hs2, ?_, hf, hfks, ?_, ?_⟩
        · have : ((r' :: RR').drop (0 + 1)) = RR' := rfl
          rw [this, hfl, List.getElem?_map, List.getElem?_range (by omega)]
          rfl
        · intro hd
          rw [hs2e] at hd
          have hd' : c.d = true := hd
          rw [hse]
          show e.d = true
          cases hed : e.d with
          | true => rfl
          | false =>
            have := (((up_succ e).1 (hu e (List.mem_of_getElem? he))).1 hed c (List.mem_of_getElem? hcj)).d
            rw [this] at hd'
            cases hd'
        · rw [g3, hck]; exact klt_irrefl _
        · cases hz : (leafs n (l'.take at')).length with
          | zero => exact .inl rfl
          | succ lf' =>
            right
            rw [hz] at hf0
            have hlt : lf' < (leafs n l').length := by have := (List.getElem?_eq_some_iff.1 hf0).1; omega
            have hg0 : (leafs n l')[lf']? = some ((leafs n l')[lf']'hlt) := List.getElem?_eq_getElem hlt
            obtain ⟨f', hf', hfe'⟩ := map_get hlvm hg0
            have hne : 2 ≤ ((leafs n l')[lf']'hlt).l.length := by
              have := leafs_full n l' f1 _ (List.getElem_mem hlt)
              omega
            have hks' : f'.s.ks = (((leafs n l')[lf']'hlt).l).map (ek 0) := by rw [hfe']; rfl
            obtain ⟨kl, hkl⟩ : ∃ kl, f'.s.ks.getLast? = some kl := by
              cases hq : f'.s.ks.getLast? with
              | some kl => exact ⟨kl, rfl⟩
              | none =>
                have : f'.s.ks = [] := by simpa using hq
                rw [this] at hks'
                have := congrArg List.length hks'
                simp at this
                omega
            refine ⟨lf', f', kl, rfl, hf', hkl, ?_⟩
            rw [← hck, ← g3]
            refine lf_rise (L := leafs n l') (by rw [leafs_flats]; exact hs') hg0 hf0 (by omega) ?_ ?_
            · rw [← hks']; exact List.mem_of_getLast? hkl
            · rw [g2]; simp
end Go.Proofs.Ytlfgeanafidopaa.Bt
