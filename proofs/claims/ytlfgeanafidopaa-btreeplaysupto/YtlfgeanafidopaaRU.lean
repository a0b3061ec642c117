/-
  The shapes of a tree are sound.
-/
import Derived.Test.YtlfgeanafidopaaRN
import Derived.Test.YtlfgeanafidopaaRT
namespace Go.Proofs.Ytlfgeanafidopaa.Bt
open Go.RowKit Go.Shelf
set_option maxRecDepth 10000

theorem kids_two {n F : Nat} (hF : 4 ≤ F) : ∀ (l : List (El (n + 1))), (∀ e ∈ l, Fill F (n + 1) e) → 2 * l.length ≤ (l.flatMap El.l).length
  | [], _ => by simp
  | e :: l, h => by
    have h1 := (h e (by simp)).1
    have h2 := kids_two hF l (fun y hy => h y (by simp [hy]))
    rw [List.flatMap_cons, List.length_append, List.length_cons]
    omega
theorem flats_flat {n : Nat} (l : List (El (n + 1))) : flats l = flats (l.flatMap El.l) := by
  unfold flats
  rw [List.flatMap_assoc]
  rfl
theorem shps_bound {F : Nat} (hF : 4 ≤ F) : ∀ (n : Nat) (l : List (El (n + 1))), (∀ e ∈ l, Fill F (n + 1) e) → (shps n l).length + l.length ≤ (flats l).length
  | 0, l, h => by
    have h1 := kids_two hF l h
    rw [flats_flat, flats_zero, List.length_map]
    show (l.map (shp 0)).length + _ ≤ _
    rw [List.length_map]
    omega
  | n + 1, l, h => by
    have h1 := kids_two hF l h
    have h2 := shps_bound hF n (l.flatMap El.l) (fun e he => by
      obtain ⟨y, hy, he⟩ := List.mem_flatMap.1 he
      exact (h y hy).2.2 e he)
    rw [← flats_flat] at h2
    show (l.map (shp (n + 1)) ++ shps n (l.flatMap El.l)).length + _ ≤ _
    rw [List.length_append, List.length_map]
    omega
theorem shps_tot {F : Nat} (hF : 4 ≤ F) {x : Tre} (h : InvT F x) : (shps x.n [x.T]).length ≤ x.all.length + 1 := by
  obtain ⟨n, T⟩ := x
  replace h : Inv F n T := h
  cases n with
  | zero => exact Nat.le_add_left _ _
  | succ n =>
    have := shps_bound hF n T.l h.good.kids
    show ([T].map (shp (n + 1)) ++ shps n ([T].flatMap El.l)).length ≤ (flats T.l).length + 1
    rw [List.length_append, List.length_map, List.flatMap_singleton]
    simp only [List.length_cons, List.length_nil]
    omega
theorem flats_one {n : Nat} (T : El (n + 1)) : flats [T] = flats T.l := by rw [flats_cons, flat_succ]; exact List.append_nil _
theorem snd_of {w : World} {F : Nat} (hF : 4 ≤ F) {x : Tre} (hI : InvT F x) (hU : UpT x) (hR : RL x.all) {S : List Shc} (hS : S.map Shc.s = shps x.n [x.T]) (hk : ∀ c ∈ S, Whole w c.B (c.s.ks.map Value.string) 9) (hlen : x.all.length ≤ 50000000) : ∃ RR, SndP w F x.n S RR := by
  have hSl : S.length ≤ x.all.length + 1 := by
    have := shps_tot hF hI
    rw [← hS, List.length_map] at this
    exact this
  obtain ⟨n, T⟩ := x
  replace hI : Inv F n T := hI
  replace hU : Up (n + 1) T := hU
  have hlv := inv_level hF hI
  replace hlen : (flats T.l).length ≤ 50000000 := hlen
  replace hSl : S.length ≤ (flats T.l).length + 1 := hSl
  replace hR : RL (flats T.l) := hR
  obtain ⟨RR, q1, q2⟩ := unflat (rowsS n [T]) S (by rw [hS, rowsS_flat])
  have kf : KidsFill F n [T] := fun e he c hc => by rw [List.mem_singleton.1 he] at hc; exact hI.good.kids c hc
  have ks : Srt (flats [T]) := by rw [flats_one]; exact hI.good.srt
  have hL : RR.length = n + 1 := by have := congrArg List.length q1; rw [List.length_map, rowsS_len] at this; exact this
  have row : ∀ {k : Nat} {r : List Shc}, RR[k]? = some r → (rowsS n [T])[k]? = some (r.map Shc.s) := fun {k r} hr => by rw [← q1, List.getElem?_map, hr]; rfl
  have hmem : ∀ {k : Nat} {r : List Shc}, RR[k]? = some r → ∀ s ∈ r, s ∈ S := fun {k r} hr s hs => by rw [← q2]; exact List.mem_flatten.2 ⟨r, List.mem_of_getElem? hr, hs⟩
  refine ⟨RR, ⟨q2, hL, fun k r hr => ?_, fun r hr => ?_⟩, fun k r hr s hs => ?_, ⟨fun k r r2 hr hr2 => rows_kin n [T] RR q1 k r r2 hr hr2, fun k r hr => ?_, by omega⟩, fun lv hlv' => rows_key hF n [T] RR q1 kf ks (fun e he => by rw [List.mem_singleton.1 he]; exact hU) lv hlv', fun lv hlv' i f g hf hg => ?_⟩
  · obtain ⟨r1, r2⟩ := rows_lv hF n [T] (by simp) kf (fun hn e he e0 => by rw [List.mem_singleton.1 he] at e0; have := hI.two hn; rw [e0] at this; simp at this) k _ (row hr)
    exact ⟨fun e => r1 (by rw [e]; rfl), fun s hs => r2 s.s (List.mem_map_of_mem hs)⟩
  · obtain ⟨rs, hrs⟩ := rowsS_head n [T]
    have := row hr
    rw [hrs] at this
    simp at this
    have := congrArg List.length this
    simpa using this.symm
  · obtain ⟨c1, c2, c3, c4⟩ := rows_cnt hF n (if n = 0 then 0 else 2) [T] kf ks (fun e he => by
      rw [List.mem_singleton.1 he]
      refine ⟨?_, hI.le⟩
      split
      · exact Nat.zero_le _
      · exact hI.two (by omega)) k _ (row hr) s.s (List.mem_map_of_mem hs)
    refine ⟨hk s (hmem hr s hs), c1, ?_, c3, fun q hq => ?_⟩
    · unfold least
      rw [hL]
      by_cases k0 : k = 0
      · rw [if_pos k0] at c2 ⊢
        by_cases n0 : n = 0
        · rw [if_pos (by omega)]; exact Nat.zero_le _
        · rw [if_neg n0] at c2
          rw [if_neg (by omega)]; exact c2
      · rw [if_neg k0] at c2 ⊢; exact c2
    · have := c4 q hq
      rw [flats_one] at this
      obtain ⟨y, hy, rfl⟩ := List.mem_map.1 this
      exact hR.size y hy
  · have : r.length ≤ RR.flatten.length := by
      have hs : r.Sublist RR.flatten := List.sublist_flatten_of_mem (List.mem_of_getElem? hr)
      exact hs.length_le
    rw [q2] at this
    omega
  · have hlvm : lv.map Shc.s = (leafs n [T]).map (shp 0) := by
      have h1 := rowsS_last n [T]
      have h2 := row hlv'
      rw [h1] at h2
      simpa using h2.symm
    obtain ⟨f0, hf0, hfe⟩ := get_map hlvm hf
    obtain ⟨g0, hg0, hge⟩ := get_map hlvm hg
    cases n with
    | zero =>
      have hg0' : ([T] : List (El 1))[i + 1]? = some g0 := hg0
      simp at hg0'
    | succ m =>
      have fl := leafs_full (F := F) m T.l (fun e he => hI.good.kids e he)
      have e1 : leafs (m + 1) [T] = leafs m T.l := by show leafs m ([T].flatMap El.l) = _; rw [List.flatMap_singleton]
      have nf : 2 ≤ f0.l.length := by have := fl f0 (by rw [← e1]; exact List.mem_of_getElem? hf0); omega
      have ng : 2 ≤ g0.l.length := by have := fl g0 (by rw [← e1]; exact List.mem_of_getElem? hg0); omega
      have kf' : f.s.ks = f0.l.map (ek 0) := by rw [hfe]; rfl
      have kg' : g.s.ks = g0.l.map (ek 0) := by rw [hge]; rfl
      obtain ⟨kl, hkl⟩ : ∃ kl, f.s.ks.getLast? = some kl := by
        cases hq : f.s.ks.getLast? with
        | some kl => exact ⟨kl, rfl⟩
        | none =>
          have : f.s.ks = [] := by simpa using hq
          rw [this] at kf'
          have := congrArg List.length kf'
          simp at this
          omega
      cases hgl : g.s.ks with
      | nil =>
        rw [hgl] at kg'
        have := congrArg List.length kg'
        simp at this
        omega
      | cons k0 rest =>
        refine ⟨kl, k0, rest, hkl, rfl, ?_⟩
        refine lf_rise (L := leafs (m + 1) [T]) (by rw [leafs_flats]; exact ks) hf0 hg0 (by omega) ?_ ?_
        · rw [← kf']; exact List.mem_of_getLast? hkl
        · rw [← kg', hgl]; simp
/-- Sound of a tree's shapes, as the document's. -/
theorem sound_tree {w0 w : World} {a : Option Addr} {n c F : Nat} (hF : 4 ≤ F) (hF2 : F ≤ 64) {x : Tre} (hI : InvT F x) (hU : UpT x) (hR : RL x.all) {S : List Shc} (hS : S.map Shc.s = shps x.n [x.T]) (h : RSh w0 w (.slice a n c) S) (hlen : x.all.length ≤ 50000000) :
    Calls Try.prog 18 #[.slice a n c, .int .i64 (F : Nat)] w fun e w' => e = .returned (.bool true) ∧ Below w.heap.size w w' := by
  obtain ⟨RR, hP⟩ := snd_of hF hI hU hR hS h.keys hlen
  refine sound_any h hP hF hF2 ?_
  have := shps_tot hF hI
  rw [← hS, List.length_map] at this
  omega
end Go.Proofs.Ytlfgeanafidopaa.Bt
