/-
  The document's Build; both trees tell one list.
-/
import Derived.Test.YtlfgeanafidopaaRS
namespace Go.Proofs.Ytlfgeanafidopaa.Bt
open Go.RowKit
set_option maxRecDepth 10000

def rdl (k : K) (L : List KV) : List KV := if (look k L).isSome then del k L else L
def rbl : List Nw → List KV → List KV × Int
  | [], L => (L, 0)
  | y :: l, L => if y.g then rbl l (rdl y.k L) else if putE y.k y.v = 0 then rbl l (ins y.k y.v L) else (L, 22)
theorem ins_same {k v : K} : ∀ {L : List KV}, Srt L → look k L = some v → ins k v L = L
  | [], _, h => by cases h
  | x :: L, hs, h => by
    obtain ⟨h1, h2⟩ := List.pairwise_cons.1 hs
    rw [look] at h
    rw [ins]
    split at h
    · rename_i e
      rw [if_neg (by rw [e, klt_irrefl]; decide), if_pos e]
      cases h
      rw [← e]
    · rename_i e
      have hm := (look_mem k L).1 ⟨v, h⟩
      obtain ⟨z, hz, ez⟩ := List.mem_map.1 hm
      have : klt x.1 k = true := by rw [← ez]; exact h1 z hz
      rw [if_pos this, ins_same h2 h]
theorem putE_zero {k v : K} (h : putE k v = 0) : okKey k = true ∧ okVal v = true ∧ k.size ≤ 64 := by
  unfold putE at h
  split at h
  · rename_i q
    rw [Bool.and_eq_true] at q
    refine ⟨q.1, q.2, ?_⟩
    have := q.1
    unfold okKey at this
    rw [Bool.and_eq_true, decide_eq_true_eq] at this
    exact this.2
  · exact absurd h (by decide)
theorem putE_or (k v : K) : putE k v = 0 ∨ putE k v = 22 := by unfold putE; split <;> simp
/-- What the code's tree tells behind a Put, a Delete. -/
theorem put_all {F : Nat} (hF : 4 ≤ F) {k v : K} {x : Tre} (h : InvT F x) (hE : putE k v = 0) : (putR F k v x).all = ins k v x.all := by
  obtain ⟨a, b, _⟩ := putE_zero hE
  unfold putR putS
  rw [a, b, Bool.and_self, if_pos rfl]
  split
  · rename_i e; exact (ins_same h.good.srt e).symm
  · exact (inv_put hF k v h).2
theorem put_no {F : Nat} {k v : K} {x : Tre} (hE : putE k v ≠ 0) : putR F k v x = x := by
  unfold putR
  rw [if_neg]
  intro q
  exact hE (by unfold putE; rw [if_pos q])
theorem del_all {F : Nat} (hF : 4 ≤ F) {k : K} {x : Tre} (h : InvT F x) : (delS F k x).all = rdl k x.all := by
  unfold delS rdl
  split
  · rename_i hk
    exact (inv_del hF k h ((look_mem k _).1 (Option.isSome_iff_exists.1 hk))).2
  · rfl
theorem bld_rbl {F : Nat} (hF : 4 ≤ F) : ∀ (l : List Nw) (x : Tre), InvT F x → (bld F l x).2 = (rbl l x.all).2 ∧ (bld F l x).1.all = (rbl l x.all).1
  | [], _, _ => ⟨rfl, rfl⟩
  | y :: l, x, h => by
    rw [bld, rbl]
    split
    · have := bld_rbl hF l _ (delS_len hF y.k h).2
      rw [del_all hF h] at this
      exact this
    · split
      · rename_i hE
        have := bld_rbl hF l _ (putR_len hF y.k y.v h).2
        rw [put_all hF h hE] at this
        exact this
      · rename_i hE
        refine ⟨?_, rfl⟩
        rcases putE_or y.k y.v with q | q
        · exact absurd q hE
        · exact q
/-- A list as the document's tree has it. -/
structure RL (L : List KV) : Prop where
  srt : Srt L
  keys : ∀ x ∈ L, x.1.size ≤ 64
theorem RL.nil : RL [] := ⟨List.Pairwise.nil, fun x hx => (by cases hx)⟩
theorem RL.size {L : List KV} (h : RL L) : ∀ x ∈ L, x.1.size ≤ maxLen := fun x hx => by have := h.keys x hx; unfold maxLen; omega
theorem RL.ins {L : List KV} (h : RL L) {k v : K} (hk : k.size ≤ 64) : RL (ins k v L) := by
  obtain ⟨h1, h2⟩ := ins_srt (k := k) (v := v) h.srt
  refine ⟨h1, fun x hx => ?_⟩
  rcases h2 x hx with rfl | hx
  · exact hk
  · exact h.keys x hx
theorem RL.rdl {L : List KV} (h : RL L) (k : K) : RL (rdl k L) := by
  unfold Bt.rdl
  split
  · exact ⟨del_srt h.srt, fun x hx => h.keys x (List.mem_filter.1 hx).1⟩
  · exact h
theorem rdl_len (k : K) (L : List KV) : (rdl k L).length ≤ L.length := by
  unfold rdl
  split
  · exact List.length_filter_le _ _
  · exact Nat.le_refl _
theorem insl_len {k v : K} {L : List KV} (h : Srt L) : (ins k v L).length ≤ L.length + 1 := ins_len_le k v h
/-- The document's tree, all of it new. -/
structure RB (w : World) (r : Nat) (L : List KV) (W : World) : Prop where
  at_ : RAt W r L
  r : w.heap.size ≤ r
  below : Below w.heap.size w W
  rl : RL L
theorem RB.step {w : World} {r : Nat} {L L' : List KV} {W W' : World} (h : RB w r L W) (ha : RAt W' r L') (hk : Kept (fun b => b = r) W W') (hl : RL L') : RB w r L' W' :=
  ⟨ha, h.r, h.below.trans (hk.below h.below.size (fun k e => by rw [e]; exact h.r)), hl⟩
theorem RB.later {w : World} {r : Nat} {L : List KV} {W W' : World} (h : RB w r L W) (hb : Below W.heap.size W W') : RB w r L W' := ⟨h.at_.later hb, h.r, bafter h.below hb, h.rl⟩
theorem RB.put {w : World} {r : Nat} {L : List KV} {W : World} (h : RB w r L W) (k v : K) (hl : L.length ≤ 1000000000) :
    Calls Try.prog 31 #[.pointer (some ⟨r, 0, none⟩), .string k, .string v] W fun e w' => e = .returned (.int .i64 (putE k v)) ∧ RB w r (if putE k v = 0 then ins k v L else L) w' ∧ Kept (fun b => b = r) W w' := by
  by_cases hE : putE k v = 0
  · have hs := putE_zero hE
    refine (rput_ok h.at_ h.rl.srt h.rl.size k v (by have := hs.2.2; unfold maxLen; omega) hl hE).mono ?_
    rintro e w' ⟨rfl, h1, h2⟩
    rw [if_pos hE]
    exact ⟨by rw [hE], h.step h1 h2 (h.rl.ins hs.2.2), h2⟩
  · refine (rput_bad r k v W hE).mono ?_
    rintro e w' ⟨rfl, rfl⟩
    rw [if_neg hE]
    refine ⟨?_, h, Kept.refl _ _⟩
    rcases putE_or k v with q | q
    · exact absurd q hE
    · rw [q]
theorem RB.del {w : World} {r : Nat} {L : List KV} {W : World} (h : RB w r L W) (k : K) (hl : L.length ≤ 1000000000) :
    Calls Try.prog 30 #[.pointer (some ⟨r, 0, none⟩), .string k] W fun e w' => e = .returned (.bool (look k L).isSome) ∧ RB w r (rdl k L) w' ∧ Kept (fun b => b = r) W w' := by
  refine (rdel_any h.at_ k hl).mono ?_
  rintro e w' ⟨rfl, h1, h2⟩
  exact ⟨rfl, h.step h1 h2 (h.rl.rdl k), h2⟩
set_option maxHeartbeats 8000000 in
theorem rbuild_ok (F : Nat) (h1 : 4 ≤ F) (h2 : F ≤ 64) (a : Option Addr) (len cap : Nat) (l : List Nw) (w : World) (hA : NArg w a len cap l) (hsz : len ≤ 1048576) :
    Calls Try.prog 10 #[.int .i64 (F : Nat), .slice a len cap] w fun e w' => ((rbl l []).2 = 0 ∧ ∃ r, e = .returned (.tuple #[.pointer (some ⟨r, 0, none⟩), .int .i64 0]) ∧ RB w r (rbl l []).1 w') ∨ ((rbl l []).2 = 22 ∧ e = .returned (.tuple #[.pointer none, .int .i64 22]) ∧ Below w.heap.size w w') := by
  have kN := rnew_ok F w h1 h2
  have HRow : Hid (NRow w a l) := hA.row
  have hlc := hA.le
  have hcm := hA.max
  have HL : Hid (len = l.length) := hA.len_eq
  obtain ⟨R, hR⟩ : ∃ R, R = rbl l [] := ⟨_, rfl⟩
  have HR : Hid (R = rbl l []) := hR
  rw [← hR]
  clear hA hR
  unfold maxLen at hcm
  go_enter Try.func10, Try.ntmps10
  go_wp2_with (go_at_call 29; refine kN.mono ?_; rintro e W1 ⟨rfl, ha1, hb1⟩; have H1 : Hid (RB w w.heap.size [] W1) := ⟨ha1, Nat.le_refl _, hb1, RL.nil⟩; clear ha1 hb1)
  generalize w.heap.size = r at *
  go_loopg [8] len (fun kx s wr => ∃ (k : Nat) (L : List KV), k + kx = len ∧ s = .int .i64 (k : Nat) ∧ Hid (RB w r L wr ∧ L.length ≤ k ∧ rbl (l.drop k) L = R))
  case atStart => exact ⟨0, [], by omega, rfl, (⟨H1.out, Nat.le_refl _, by rw [List.drop_zero]; exact HR.out.symm⟩ : RB w r [] W1 ∧ ([] : List KV).length ≤ 0 ∧ rbl (l.drop 0) [] = R)⟩
  case round =>
    obtain ⟨k, L, hk, rfl, I⟩ := hrel
    by_cases hlt : k < len
    · obtain ⟨y, hy⟩ : ∃ y, l[k]? = some y := ⟨_, List.getElem?_eq_getElem (by have := HL.out; omega)⟩
      obtain ⟨hyl, hye⟩ := List.getElem?_eq_some_iff.1 hy
      have hdr : l.drop k = y :: l.drop (k + 1) := by rw [← hye, ← List.drop_eq_getElem_cons hyl]
      rcases HRow.out.later I.out.1.below with e | ⟨b, off, rfl, hc⟩
      · rw [e] at hyl; simp at hyl
      obtain ⟨q0, q1, q2⟩ := hc k y hy
      have hi1 : (k : Int) < (len : Int) := by omega
      have HStep := I.out.2.2
      rw [hdr, rbl] at HStep
      have hxl := I.out.2.1
      have kD := I.out.1.del y.k (by omega)
      have HP : Hid (∀ X, Below wr.heap.size wr X → Calls Try.prog 31 #[.pointer (some ⟨r, 0, none⟩), .string y.k, .string y.v] X fun e w' => e = .returned (.int .i64 (putE y.k y.v)) ∧ RB w r (if putE y.k y.v = 0 then ins y.k y.v L else L) w' ∧ Kept (fun b => b = r) X w') := fun X hX => (I.out.1.later hX).put y.k y.v (by omega)
      have HNew : Hid (∀ X, Below wr.heap.size wr X → ∀ w', Kept (fun b => b = r) X w' → w'.cell? ⟨b, off + k * 3, none⟩ = some (.string y.k) ∧ w'.cell? ⟨b, off + k * 3 + 1, none⟩ = some (.string y.v)) := fun X hX w' hK => by
        have hbw : b < w.heap.size := by
          rcases HRow.out with e | ⟨b', off', e, hc'⟩
          · rw [e] at hyl; simp at hyl
          · cases e; exact World.block_lt_of_cell? w _ (hc' k y hy).1
        have hbb : Below w.heap.size w w' := (I.out.1.later hX).below.trans (hK.below (I.out.1.later hX).below.size (fun k e => by rw [e]; exact I.out.1.r))
        rcases HRow.out.later hbb with e | ⟨b', off', e, hc'⟩
        · rw [e] at hyl; simp at hyl
        · cases e; exact ⟨(hc' k y hy).1, (hc' k y hy).2.1⟩
      have HSrt : Hid (Srt L) := I.out.1.rl.srt
      cases hg : y.g with
      | true =>
        rw [hg] at q2 HStep
        rw [if_pos rfl] at HStep
        have HS : Hid (rbl (l.drop (k + 1)) (rdl y.k L) = R ∧ (rdl y.k L).length ≤ k + 1) := ⟨HStep, by have := rdl_len y.k L; omega⟩
        clear HStep hxl hy hye hdr hc hg
        go_wp2_with (go_at_call 30; refine kD.mono ?_; rintro e W3 ⟨rfl, h3, _⟩; have H3 : Hid (RB w r (rdl y.k L) W3) := h3; clear h3)
        go_roundg (len - (k + 1))
        case measure => omega
        case rel => exact ⟨k + 1, rdl y.k L, by omega, by go_num, (⟨H3.out, HS.out.2, HS.out.1⟩ : RB w r (rdl y.k L) W3 ∧ _ ∧ _)⟩
      | false =>
        rw [hg] at q2 HStep
        rw [if_neg (by decide)] at HStep
        by_cases hE : putE y.k y.v = 0
        · rw [if_pos hE] at HStep
          have HS : Hid (rbl (l.drop (k + 1)) (ins y.k y.v L) = R ∧ (ins y.k y.v L).length ≤ k + 1) := ⟨HStep, by have := insl_len (k := y.k) (v := y.v) HSrt.out; omega⟩
          rw [hE] at HP
          rw [if_pos rfl] at HP
          clear HStep hxl hy hye hdr hc hg hE kD
          go_wp2
          go_region_held3 (fun w' => w'.cell? ⟨b, off + k * 3, none⟩ = some (.string y.k) ∧ w'.cell? ⟨b, off + k * 3 + 1, none⟩ = some (.string y.v)) (first | assumption | go_keep) (first
            | (go_at_call 31; refine (HP.out wr.drew (below_drawn wr 1)).mono ?_; rintro e W3 ⟨rfl, h3, hK3⟩; have H3 : Hid (RB w r (ins y.k y.v L) W3) := h3; have k3 := HNew.out wr.drew (below_drawn wr 1) W3 hK3; clear h3 hK3))
          go_wp2
          go_roundg (len - (k + 1))
          case measure => omega
          case rel => exact ⟨k + 1, ins y.k y.v L, by omega, by go_num, (⟨H3.out, HS.out.2, HS.out.1⟩ : RB w r (ins y.k y.v L) W3 ∧ _ ∧ _)⟩
        · rw [if_neg hE] at HStep
          have hE2 : putE y.k y.v = 22 := by
            rcases putE_or y.k y.v with q | q
            · exact absurd q hE
            · exact q
          have HS : Hid ((L, (22 : Int)) = R) := HStep
          rw [hE2] at HP
          rw [if_neg (by decide)] at HP
          clear HStep hxl hy hye hdr hc hg hE hE2 kD
          go_wp2
          go_region_held3 (fun w' => w'.cell? ⟨b, off + k * 3, none⟩ = some (.string y.k) ∧ w'.cell? ⟨b, off + k * 3 + 1, none⟩ = some (.string y.v)) (first | assumption | go_keep) (first
            | (go_at_call 31; refine (HP.out wr.drew (below_drawn wr 1)).mono ?_; rintro e W3 ⟨rfl, h3, hK3⟩; have H3 : Hid (RB w r L W3) := h3; have k3 := HNew.out wr.drew (below_drawn wr 1) W3 hK3; clear h3 hK3))
          go_wp2
          go_ret2
          exact .inr ⟨by rw [← HS.out], rfl, H3.out.below⟩
    · have hkl : k = len := by omega
      subst hkl
      have hR2 := I.out.2.2
      rw [HL.out, List.drop_eq_nil_of_le (Nat.le_refl _), rbl] at hR2
      have HR2 : Hid ((L, (0 : Int)) = R) := hR2
      clear hR2
      go_wp2
      go_ret2
      exact .inl ⟨by rw [← HR2.out], r, rfl, by rw [← HR2.out]; exact I.out.1⟩
set_option maxHeartbeats 1000000 in
theorem rbuild_bad (f : Int) (a : Option Addr) (len cap : Nat) (w : World) (h : okFan f = false) :
    Calls Try.prog 10 #[.int .i64 f, .slice a len cap] w fun e w' => e = .returned (.tuple #[.pointer none, .int .i64 22]) ∧ w = w' := by
  have kN := rnew_bad f w h
  clear h
  go_enter Try.func10, Try.ntmps10
  go_wp2_with (go_at_call 29; refine kN.mono ?_; rintro e w' ⟨rfl, rfl⟩)
  go_ret2
  exact ⟨rfl, rfl⟩
end Go.Proofs.Ytlfgeanafidopaa.Bt
