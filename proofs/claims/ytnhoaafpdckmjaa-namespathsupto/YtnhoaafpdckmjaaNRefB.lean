/-
  The document's answer of Split; and whether two paths are the same.
-/
import Derived.Test.YtnhoaafpdckmjaaNRefA
namespace Go.Proofs.Ytnhoaafpdckmjaa
open Go.RowKit Go.Shelf M

theorem rsplit_results (tmps : Array Value) (B : Nat) (a b : Value) (W : World) (h2 : tmps[2]?.getD undef = .pointer (some ⟨B, 0, none⟩))
    (ca : W.cell? ⟨B, 0, none⟩ = some a) (cb : W.cell? ⟨B, 1, none⟩ = some b) :
    (results Try.f10 tmps).run Try.prog W = .ok (.tuple #[.agg #[a, b], tmps[3]?.getD undef]) W := by
  simp [results, Try.f10, go_sem, h2, ca, cb]

theorem rsplit_empty (w : World) :
    Calls Try.prog 10 #[.string (bs [])] w fun e w' => e = .returned (.tuple #[.agg #[.slice none 0 0, .bool false], .int .i64 2]) ∧ Below w.heap.size w w' := by
  have h0 := bs_nil
  go_enter Try.func10, Try.ntmps10
  go_wp2
  refine bodyPost_ret (v := .tuple #[.agg #[.slice none 0 0, .bool false], .int .i64 2]) ?_ rfl ⟨rfl, below_new _ _⟩
  simp [results, Try.f10, go_sem]
theorem rsplit_long (s : List UInt8) (h : 255 < s.length) (w : World) :
    Calls Try.prog 10 #[.string (bs s)] w fun e w' => e = .returned (.tuple #[.agg #[.slice none 0 0, .bool false], .int .i64 36]) ∧ Below w.heap.size w w' := by
  have h0 := bs_ne2 (l := s) (by intro e; subst e; simp at h)
  have h00 := bs_ne (l := s) (by intro e; subst e; simp at h)
  have h1 : (255 : Int) < (bs s).size := by rw [bs_size]; omega
  go_enter Try.func10, Try.ntmps10
  go_wp2
  refine bodyPost_ret (v := .tuple #[.agg #[.slice none 0 0, .bool false], .int .i64 36]) ?_ rfl ⟨rfl, below_new _ _⟩
  simp [results, Try.f10, go_sem]
theorem rsplit_zero (s : List UInt8) (h1 : s ≠ []) (h2 : s.length ≤ 255) (h3 : 0 ∈ s) (w : World) :
    Calls Try.prog 10 #[.string (bs s)] w fun e w' => e = .returned (.tuple #[.agg #[.slice none 0 0, .bool false], .int .i64 22]) ∧ Below w.heap.size w w' := by
  have h0 := bs_ne2 (l := s) h1
  have h00 := bs_ne (l := s) h1
  have h1 : ¬ (255 : Int) < (bs s).size := by rw [bs_size]; omega
  have hc := fun w => has_any s 0 (by unfold maxLen; omega) w
  rw [decide_eq_true h3] at hc
  clear h2 h3
  go_enter Try.func10, Try.ntmps10
  go_wp2_with (go_at_call 31; refine (hc _).mono ?_; rintro e w' ⟨rfl, rfl⟩)
  refine bodyPost_ret (v := .tuple #[.agg #[.slice none 0 0, .bool false], .int .i64 22]) ?_ rfl ⟨rfl, below_new _ _⟩
  simp [results, Try.f10, go_sem]

/-- The first texts, i of them, are short enough. -/
def shortTo (l : List ByteArray) (i : Nat) : Prop := ∀ p ∈ l.take i, p.size ≤ 24
theorem last_at (s : List UInt8) (h : s ≠ []) : ∃ (hl : s.length - 1 < (bs s).size), ((((bs s)[s.length - 1]'hl).toNat : Int) == 47) = (s.getLast? == some 47) := by
  have hp : 0 < s.length := List.length_pos_iff.2 h
  refine ⟨by rw [bs_size]; omega, ?_⟩
  obtain ⟨hl2, e⟩ := bs_get (l := s) (i := s.length - 1) (by rw [bs_size]; omega)
  rw [e, List.getLast?_eq_getElem?, List.getElem?_eq_getElem hl2, Bool.eq_iff_iff]
  simp only [beq_iff_eq, Option.some.injEq]
  constructor
  · intro h; exact UInt8.toNat_inj.1 (by simp; omega)
  · intro h; rw [h]; rfl

/-- A path's parts are handed back. -/
def Parted (w w' : World) (e : Ending) (b : Bool) (z : Int) (ps : List (List UInt8)) : Prop :=
  ∃ a n cap, e = .returned (.tuple #[.agg #[.slice a n cap, .bool b], .int .i64 z]) ∧ n = ps.length ∧ SRow w' a (ps.map bs) ∧ Below w.heap.size w w'
theorem hid_of {p : Prop} (h : p) : Hid p := h
theorem stored2 {W : World} {B : Nat} {x y : Value} {tp : TypeId} (hP : Blk W B #[x, y] tp) (a b : Value) :
    Blk ((W.setCell ⟨B, 0, none⟩ a).setCell ⟨B, 1, none⟩ b) B #[a, b] tp ∧ Below B W ((W.setCell ⟨B, 0, none⟩ a).setCell ⟨B, 1, none⟩ b) :=
  ⟨(hP.set0 a).set1 b, ((Below.refl B W).setCell (p := ⟨B, 0, none⟩) (Nat.le_refl _) _).setCell (p := ⟨B, 1, none⟩) (Nat.le_refl _) _⟩
theorem stored2_row {W : World} {B : Nat} {x y : Value} {tp e : TypeId} (hP : Blk W B #[x, y] tp) (h1 : tp ≠ e) (a b : Value) {base size k : Nat} {v : Value} {xs : List Value} (hr : W.ownsRow base e size v k xs) :
    ((W.setCell ⟨B, 0, none⟩ a).setCell ⟨B, 1, none⟩ b).ownsRow base e size v k xs := by
  have n1 := hP.not_row h1 hr
  have key : ∀ (w : World) (p : Addr) (u : Value), some p.block ≠ v.ownBlock → w.ownsRow base e size v k xs → (w.setCell p u).ownsRow base e size v k xs := by
    intro w p u hne hr
    refine hr.kept (row := some p.block) ⟨rfl, rfl, rfl, (KeepsWalks.setCell w _ u).size, fun k _ hk => Below.heap_setCell _ _ _ k (fun e => hk (by rw [e]))⟩ (.inr hne.symm)
  exact key _ _ _ n1 (key _ _ _ n1 hr)

set_option maxRecDepth 100000 in
set_option maxHeartbeats 2000000 in
theorem rsplit_go (s : List UInt8) (h1 : s ≠ []) (h2 : s.length ≤ 255) (h3 : 0 ∉ s) (w : World) :
    Calls Try.prog 10 #[.string (bs s)] w fun e w' => Parted w w' e (ends s) (err s) (told s) := by
  have h0 := bs_ne2 (l := s) h1
  have h00 := bs_ne (l := s) h1
  have h10 : ¬ (255 : Int) < (bs s).size := by rw [bs_size]; omega
  have hc := fun w => has_any s 0 (by unfold maxLen; omega) w
  rw [decide_eq_false h3] at hc
  have hpa := rparts_any s h2
  have hpl := pieces_len s
  have HG := fun h => err_good (s := s) h1 h2 h3 h
  have HBAD := fun h => err_bad (s := s) (pre := pieces s) h1 h2 h3 (List.prefix_refl _) h
  obtain ⟨hll, hlast⟩ := last_at s h1
  obtain ⟨n, hn⟩ : ∃ n, n = (pieces s).length := ⟨_, rfl⟩
  have HN : Hid (n = (pieces s).length) := hn
  have hnle : n ≤ 256 := by omega
  have hz : (bs s).size = s.length := bs_size s
  have hp : 0 < s.length := List.length_pos_iff.2 h1
  have HPL : Hid ((pieces s).length = (parts s).length) := by show _ = _; unfold pieces; simp
  obtain ⟨E, hE⟩ : ∃ E, E = (s.getLast? == some 47) := ⟨_, rfl⟩
  rw [← hE] at hlast HG
  obtain ⟨S, hS⟩ : ∃ S, S = bs s := ⟨_, rfl⟩
  have hidx : ∃ (hl : s.length - 1 < S.size), (((S[s.length - 1]'hl).toNat : Int) == 47) = E := by subst hS; exact ⟨hll, hlast⟩
  rw [← hS] at h0 h00 h10 hc hpa hz ⊢
  obtain ⟨hl2, hlast2⟩ := hidx
  obtain ⟨q, hq⟩ : ∃ q, q = s.length - 1 := ⟨_, rfl⟩
  have hq1 : ((S.size : Int) - 1) = (q : Int) := by omega
  have hqs : q < S.size := by omega
  have hlast3 : (((S[q]'hqs).toNat : Int) == 47) = E := by subst hq; exact hlast2
  have HG' := HG
  have HBAD' := HBAD
  clear HG HBAD hS hE hll hlast hl2 hlast2 hq hpl hn h1 h2 h3 hp hz
  have HGH : Hid ((pieces s).length ≤ 32 ∧ (∀ p ∈ pieces s, p.size ≤ 24) → ends s = E ∧ err s = 0 ∧ told s = parts s) := HG'
  have HBH : Hid ((32 < (pieces s).length ∨ ∃ p ∈ pieces s, 24 < p.size) → ends s = false ∧ err s = 36 ∧ told s = []) := HBAD'
  clear HG' HBAD'
  by_cases h32 : 32 < n
  · obtain ⟨z1, z2, z3⟩ := HBH.out (.inl (by rw [← HN.out]; exact h32))
    rw [z1, z2, z3]
    have h32' : (32 : Int) < (n : Int) := by omega
    clear z1 z2 z3
    go_enter Try.func10, Try.ntmps10
    go_wp2_with (first
      | (go_at_call 31; refine (hc _).mono ?_; rintro e w' ⟨rfl, rfl⟩)
      | (go_at_call 32; refine (hpa _).mono ?_; rintro e w1 ⟨v, rfl, ho, hb⟩; obtain ⟨a, cap, rfl, hr, _⟩ := owns_row' HN.out (by rw [HN.out]; exact ho); have hk1 : Blk w1 w.heap.size #[Value.slice none 0 0, Value.bool false] 28 := Blk.later (World.alloc_heap_new w _) hb; have c0 := hk1.cell0; have c1 := hk1.cell1; have f0 := hk1.frozen0; have f1 := hk1.frozen1; have HY : Hid (Below w.heap.size w w1) := Below.after (below_new w _) hb; clear hb ho))
    obtain ⟨q1, q2⟩ := stored2 hk1 (.slice none 0 0) (.bool false)
    exact bodyPost_ret (rsplit_results _ w.heap.size _ _ _ rfl q1.cell0 q1.cell1) rfl ⟨none, 0, 0, rfl, rfl, .inl rfl, HY.out.trans q2⟩
  · have h32' : ¬ (32 : Int) < (n : Int) := by omega
    go_enter Try.func10, Try.ntmps10
    go_wp2_with (first
      | (go_at_call 31; refine (hc _).mono ?_; rintro e w' ⟨rfl, rfl⟩)
      | (go_at_call 32; refine (hpa _).mono ?_; rintro e w1 ⟨v, rfl, ho, hb⟩; obtain ⟨a, cap, rfl, hr, _⟩ := owns_row' HN.out (by rw [HN.out]; exact ho); have hk1 : Blk w1 w.heap.size #[Value.slice none 0 0, Value.bool false] 28 := Blk.later (World.alloc_heap_new w _) hb; have c0 := hk1.cell0; have c1 := hk1.cell1; have f0 := hk1.frozen0; have f1 := hk1.frozen1; have HY : Hid (Below w.heap.size w w1) := Below.after (below_new w _) hb; have HR : Hid (SRow w1 a (pieces s)) := hr; have HO := hid_of ho; clear hb ho hr))
    go_loop [5] (fun s5 => ∃ k : Nat, k ≤ n ∧ s5 = .int .i64 k ∧ shortTo (pieces s) k) (fun s5 => n - (intOf s5).toNat)
    case atStart => exact ⟨0, by omega, rfl, by intro p hp; simp at hp⟩
    case round =>
      obtain ⟨k, hk, rfl, hsh⟩ := hrel
      have HSH : Hid (shortTo (pieces s) k) := hsh
      clear hsh
      by_cases hlt : k < n
      · obtain ⟨b1, o1, rfl, hc1⟩ : ∃ b off, a = some ⟨b, off, none⟩ ∧ ∀ i, i < (pieces s).length → w1.cell? ⟨b, off + i, none⟩ = some (.string ((pieces s).getD i ByteArray.empty)) := by
          rcases HR.out with h | h
          · have := HN.out; rw [h] at this; simp at this; omega
          · exact h
        have hkl : k < (pieces s).length := by have := HN.out; omega
        have g1 := hc1 k hkl
        clear hc1
        generalize hxk : (pieces s).getD k ByteArray.empty = x at g1
        have HX : Hid ((pieces s)[k]? = some x) := by show _ = _; rw [getD_lt hkl, hxk]
        clear hxk
        by_cases hx : 24 < x.size
        · have hx' : (24 : Int) < (x.size : Int) := by omega
          have HZ := hid_of (HBH.out (.inr ⟨x, List.mem_of_getElem? HX.out, hx⟩))
          go_wp2
          rw [HZ.out.1, HZ.out.2.1, HZ.out.2.2]
          obtain ⟨q1, q2⟩ := stored2 hk1 (.slice none 0 0) (.bool false)
          exact bodyPost_ret (rsplit_results _ w.heap.size _ _ _ rfl q1.cell0 q1.cell1) rfl ⟨none, 0, 0, rfl, rfl, .inl rfl, HY.out.trans q2⟩
        · have hx' : ¬ (24 : Int) < (x.size : Int) := by omega
          have HS2 : Hid (shortTo (pieces s) (k + 1)) := by
            intro p hp
            rw [List.take_add_one, HX.out] at hp
            rcases List.mem_append.1 hp with h | h
            · exact HSH.out p h
            · simp at h; subst h; omega
          go_wp2
          go_round
          case rel => exact ⟨k + 1, by omega, by go_num, HS2.out⟩
          case measure => simp [intOf]; omega
      · have hkn : k = n := by omega
        subst hkn
        have HZ := hid_of (HGH.out ⟨by rw [← HN.out]; omega, fun p hp => HSH.out p (by rw [HN.out, List.take_length]; exact hp)⟩)
        have hqI : ((q : Nat) : Int) < (S.size : Int) := by omega
        go_wp2
        rw [HZ.out.1, HZ.out.2.1, HZ.out.2.2]
        obtain ⟨q1, q2⟩ := stored2 hk1 (.slice a k cap) (.bool E)
        refine bodyPost_ret (rsplit_results _ w.heap.size _ _ _ rfl q1.cell0 q1.cell1) rfl ⟨a, k, cap, rfl, ?_, ?_, HY.out.trans q2⟩
        · rw [HN.out, HPL.out]
        · have h3 := stored2_row hk1 (by decide) (.slice a k cap) (.bool E) HO.out
          obtain ⟨a', c', hv, hr', _⟩ := owns_row h3
          rw [← HN.out] at hv
          simp only [Value.slice.injEq] at hv
          obtain ⟨rfl, _, rfl⟩ := hv
          exact hr'

theorem rsplit_any (s : List UInt8) (w : World) :
    Calls Try.prog 10 #[.string (bs s)] w fun e w' => Parted w w' e (ends s) (err s) (told s) := by
  have key : ∀ {w' : World} {z : Int}, err s = z → z ≠ 0 → Below w.heap.size w w' → Parted w w' (.returned (.tuple #[.agg #[.slice none 0 0, .bool false], .int .i64 z])) (ends s) (err s) (told s) := by
    intro w' z hz he hb
    have h0 : err s ≠ 0 := by rw [hz]; exact he
    have h1 : told s = [] := by unfold told; rw [if_neg h0]
    have h2 : ends s = false := by unfold ends; rw [decide_eq_false h0]; rfl
    rw [h1, h2, hz]
    exact ⟨none, 0, 0, rfl, rfl, .inl rfl, hb⟩
  by_cases h1 : s = []
  · subst h1
    refine (rsplit_empty w).mono ?_
    rintro e w' ⟨rfl, hb⟩
    exact key rfl (by decide) hb
  · by_cases h2 : 255 < s.length
    · refine (rsplit_long s h2 w).mono ?_
      rintro e w' ⟨rfl, hb⟩
      exact key (by unfold err; rw [if_neg h1, if_pos h2]) (by decide) hb
    · by_cases h3 : 0 ∈ s
      · refine (rsplit_zero s h1 (by omega) h3 w).mono ?_
        rintro e w' ⟨rfl, hb⟩
        exact key (by unfold err; rw [if_neg h1, if_neg h2, if_pos h3]) (by decide) hb
      · exact rsplit_go s h1 (by omega) h3 w

set_option maxHeartbeats 1000000 in
/-- The program's path and the document's, with the same parts and the same end. -/
theorem same_yes (a b : Option Addr) (n c d : Nat) (ps : List ByteArray) (f : Bool) (w : World) (hn : n = ps.length) (hbig : n ≤ maxLen) (ha : SRow w a ps) (hb : SRow w b ps) :
    Calls Try.prog 13 #[.agg #[.slice a n c, .bool f], .agg #[.slice b n d, .bool f]] w fun e w' => e = .returned (.bool true) ∧ Below w.heap.size w w' := by
  have ht : ∀ W, Below w.heap.size w W → Calls Try.prog 21 #[.slice a n c, .slice b n d] W fun e w' => e = .returned (.bool true) ∧ ∃ q, w' = W.drewN q := by
    intro W hB
    refine (texts_any a n c ps b n d ps W hn hn hbig (ha.later hB) (hb.later hB)).mono ?_
    rw [decide_eq_true (rfl : ps = ps)]
    exact fun _ _ h => h
  clear hn hbig ha hb
  have hB2 : Below w.heap.size w ((w.alloc (Obj.cells #[Value.slice a n c, Value.bool f] 24)).alloc (Obj.cells #[Value.slice b n d, Value.bool f] 28)) := ((Below.refl _ w).alloc (Nat.le_refl _) _).alloc (by simp) _
  have hT := ht _ hB2
  clear ht
  go_enter Try.func13, Try.ntmps13
  go_wp2_with (go_at_call 21; go_must (refine hT.mono ?_); rintro e w1 ⟨rfl, q, rfl⟩)
  go_ret
  exact ⟨by simp, Below.after hB2 (below_drawn _ q)⟩
end Go.Proofs.Ytnhoaafpdckmjaa
