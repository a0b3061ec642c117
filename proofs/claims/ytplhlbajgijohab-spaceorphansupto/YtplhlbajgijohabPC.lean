/-
  Change and Room: a map that holds what the node of each key costs.
-/
import Derived.Test.YtplhlbajgijohabPN
namespace Go.Proofs.Ytplhlbajgijohab
open Go.ChangeShapes Go.WideShapes Go.ChangeAt Go.RowKit Go.Deep
set_option maxRecDepth 10000

theorem lawS : Maps.Keyed Try.prog 9 := Maps.string_keyed Try.underlying9
theorem key_of {s : KK} (h : s.size ≤ 140737488355328) : keyOf Try.prog 9 (.string s) = some (keyL s) := WideMaps.keyOf_string_mk Try.underlying9 (by unfold maxLen; omega)
theorem key_inv {key : Value} {kl : Lit} (h : keyOf Try.prog 9 key = some kl) : ∃ x : KK, key = .string x ∧ kl = keyL x := by
  cases key <;> simp [keyOf, Try.underlying9, mapKey] at h
  exact ⟨_, rfl, h.2.symm⟩
theorem below_grown {w w' : World} (hb : Below w.heap.size w w') : w.grownBy w' none := ⟨hb.os, hb.tape, hb.output, hb.size, fun k hk _ => hb.block k hk⟩
/-- A map of the call's own. -/
def OM {H : Type} (w : World) (b n : Nat) (D : DataW H) : Prop := w.ownsMap Try.prog 9 (plainElem Try.prog 3) b n D
theorem elem_int {H : Type} (c : Nat) (h : c < 9223372036854775808) : plainElem (H := H) Try.prog 3 (.int .i64 (c : Int)) = some (.lit (.int .i64 (c : Int)), []) :=
  plainElem_int Try.underlying3 (by
    simp only [Lit.wf, Bool.and_eq_true, decide_eq_true_eq]
    exact ⟨by show (-9223372036854775808 : Int) ≤ _; omega, by show _ ≤ (9223372036854775807 : Int); omega⟩)
theorem not_cells {H : Type} {w : World} {b n : Nat} {D : DataW H} (h : OM w b n D) {p : Addr} {v : Value} (hc : w.cell? p = some v) : p.block ≠ b := by
  intro e
  obtain ⟨es, clock, hb, _⟩ := h
  subst e
  simp [World.cell?, hb] at hc
theorem NRow.kept {H : Type} {w w' : World} {b n : Nat} {D : DataW H} {a : Option Addr} {l : List Nw} (h : NRow w a l) (ho : OM w b n D) (hg : w.grownBy w' (some b)) : NRow w' a l := by
  rcases h with h | ⟨c, off, ha, hc⟩
  · exact .inl h
  · refine .inr ⟨c, off, ha, fun i y hy => ?_⟩
    obtain ⟨q0, q1, q2⟩ := hc i y hy
    have hne : c ≠ b := not_cells ho q0
    have e : w'.heap[c]? = w.heap[c]? := hg.block c (World.block_lt_of_cell? w _ q0) (fun e => hne (Option.some.inj e))
    refine ⟨?_, ?_, ?_⟩
    · simpa [World.cell?, e] using q0
    · simpa [World.cell?, e] using q1
    · simpa [World.cell?, e] using q2
theorem OM.later {H : Type} {w w' : World} {b n : Nat} {D : DataW H} (h : OM w b n D) (hb : Below w.heap.size w w') : OM w' b n D :=
  World.ownsMap.kept (row := none) h (below_grown hb) (by simp)
/-- What change leaves. -/
structure Chd (H : Type) (b n : Nat) (m : List Nw) (w wr : World) : Prop where
  grown : w.grownBy wr (some b)
  own : ∃ D : DataW H, OM wr b n D ∧ MapOf D m
theorem chd_alloc {H : Type} {b n : Nat} {m : List Nw} {w wr : World} (h : Chd H b n m w wr) (o : Obj) : Chd H b n m w (wr.alloc o) := by
  obtain ⟨D, h1, h2⟩ := h.own
  exact ⟨h.grown.andThen (World.grownBy_alloc wr o none) (fun j hj => by cases hj), D, h1.alloc o, h2⟩

set_option maxHeartbeats 4000000 in
theorem change_any {H : Type} (b n : Nat) (D : DataW H) (m : List Nw) (a : Option Addr) (len cap : Nat) (l : List Nw) (w : World) (h : NArg w a len cap l) (ho : OM w b n D) (hD : MapOf D m) (hn : n + len < 9223372036854775807) :
    Calls Try.prog 20 #[.map (some b), .slice a len cap] w fun e w' => e = .returned (.tuple #[]) ∧ Chd H b (n + len) (doneL m l) w w' := by
  have HZ : Hid (NRow w a l) := h.row
  have HO : Hid (OM w b n D) := ho
  have HL : Hid (len = l.length) := h.len_eq
  have HK : Hid ((∀ y ∈ l, y.k.size ≤ 140737488355328) ∧ ∀ y ∈ l, y.v.size ≤ 140737488355328) := ⟨h.keys, h.vals⟩
  have HC0 : Hid (Chd H b (n + 0) (doneL m (l.take 0)) w w) := ⟨⟨rfl, rfl, rfl, Nat.le_refl _, fun _ _ _ => rfl⟩, D, ho, by rw [List.take_zero]; exact hD⟩
  have hcm := h.max
  have hlc := h.le
  unfold maxLen at hcm
  clear h ho hD
  go_enter Try.func20, Try.ntmps20
  go_wp2
  go_loopg [8] len (fun kx s8 wr => ∃ (i : Nat), i + kx = len ∧ s8 = .int .i64 (i : Nat) ∧ Hid (Chd H b (n + i) (doneL m (l.take i)) w wr))
  case atStart => exact ⟨0, by omega, rfl, HC0.out⟩
  case round =>
    obtain ⟨i, hi, rfl, I⟩ := hrel
    by_cases hlt : i < len
    · obtain ⟨off0, off, y, rfl, hy, hym, hta, _, q0, q1, q2⟩ := nrow_at (HZ.out.kept HO.out I.out.grown) (i := i) (by have := HL.out; omega)
      have hi1 : (i : Int) < (len : Int) := by omega
      have hbw : off0 < wr.heap.size := World.block_lt_of_cell? wr _ q0
      have hky := HK.out.1 y hym
      have hvy := HK.out.2 y hym
      obtain ⟨D1, ho1, hD1⟩ := I.out.own
      have HS : Hid (doneL m (l.take (i + 1)) = inL (doneL m (l.take i)) y) := by show _ = _; rw [hta, doneL_snoc]
      have HO1 : Hid (OM wr b (n + i) D1 ∧ MapOf D1 (doneL m (l.take i))) := (⟨ho1, hD1⟩ : _ ∧ _)
      have HG : Hid (w.grownBy wr (some b)) := I.out.grown
      obtain ⟨k, v, g⟩ := y
      dsimp only at q0 q1 q2 hky hvy
      have hkey : keyOf Try.prog 9 (.string k) = some (keyL k) := key_of hky
      clear hta hy hym ho1 hD1 I
      cases g with
      | true =>
        go_wp2_with (at_delete; refine wpList_delete_own _ rfl _ _ 49 9 rfl 3 lawS Try.underlying49 (plainElem Try.prog 3) b (n + i) D1 rfl (HO1.out.1.alloc _) (.string k) (keyL k) rfl hkey ?_; intro w1 hown1 hturn1; have HE : Hid (Chd H b (n + (i + 1)) (doneL m (l.take (i + 1))) w w1) := ⟨((HG.out.andThen (World.grownBy_alloc wr _ none) (fun j hj => by cases hj)).andThen hturn1.grown (fun j hj => by cases hj; exact .inr rfl)), D1.del (keyL k), hown1.mono (by omega), by rw [HS.out]; exact HO1.out.2.del ⟨k, v, true⟩ rfl⟩; clear hown1 hturn1)
        go_roundg (len - (i + 1))
        case measure => omega
        case rel => exact ⟨i + 1, by omega, by go_num, HE.out⟩
      | false =>
        have kn := fun W => node_any k v hky hvy W
        have hcl := cst_lt hky hvy
        have HC : Hid (∃ C, C = cst k v) := ⟨_, rfl⟩
        obtain ⟨C, eC⟩ := HC.out
        rw [← eC] at kn hcl
        have HP : Hid (MapOf (D1.put (keyL k) (.lit (.int .i64 (C : Nat)))) (inL (doneL m (l.take i)) ⟨k, v, false⟩)) := by rw [eC]; exact HO1.out.2.put ⟨k, v, false⟩ rfl
        clear eC HC
        obtain ⟨W, hW⟩ : ∃ W, W = wr.alloc (.cells #[.string k, .string v, .bool false] 24) := ⟨_, rfl⟩
        have HW : Hid (∀ w1, Below W.heap.size W w1 → ∃ w2, (Instr.mapUpdate 49 (.map (some b)) (.string k) (.int .i64 (C : Int))).run Try.prog w1 = .ok () w2 ∧ Hid (Chd H b (n + (i + 1)) (doneL m (l.take (i + 1))) w w2)) := by
          intro w1 hb1
          have o1 : OM w1 b (n + i) D1 := (show OM W b (n + i) D1 by rw [hW]; exact HO1.out.1.alloc _).later hb1
          obtain ⟨w2, hrun, ho2, hg2⟩ := o1.update lawS Try.underlying49 (by unfold maxLen; omega) hkey (elem_int C hcl)
          refine ⟨w2, hrun, ⟨?_, _, ho2.mono (by omega), by rw [HS.out]; exact HP.out⟩⟩
          have g1 : w.grownBy w1 (some b) := (HG.out.andThen (by rw [hW]; exact World.grownBy_alloc wr _ none) (fun j hj => by cases hj)).andThen (below_grown hb1) (fun j hj => by cases hj)
          exact g1.andThen hg2 (fun j hj => by cases hj; exact .inr rfl)
        have HR : Hid (Row W wr.heap.size [.string k, .string v, .bool false] 24) := by rw [hW]; exact Row.new wr [.string k, .string v, .bool false] _
        obtain ⟨m0, m1, m2, f0, f1, f2⟩ := HR.out.seen3
        clear hkey HP HS
        go_wp2_with fail
        rw [← hW]
        clear hW
        go_wp2_with fail
        go_region_with (first
          | (go_at_call 16; refine (kn _).mono ?_; rintro e w1 ⟨rfl, hb⟩; obtain ⟨m0, m1, m2, f0, f1, f2⟩ := (HR.out.later (undrew hb)).seen3; obtain ⟨w2, hrun, HE⟩ := HW.out w1 (undrew hb); clear hb))
        all_goals
          go_wp2
          go_roundg (len - (i + 1))
          case measure => omega
          case rel => exact ⟨i + 1, by omega, by go_num, HE.out⟩
    · have hkl : i = len := by omega
      subst hkl
      have HF : Hid (Chd H b (n + i) (doneL m l) w wr) := by have := I.out; rw [HL.out, List.take_length, ← HL.out] at this; exact this
      clear I
      go_wp2
      go_end0
      exact ⟨rfl, HF.out⟩

set_option maxHeartbeats 4000000 in
theorem total_any {H : Type} (b n : Nat) (D : DataW H) (m : List Nw) (w : World) (ho : OM w b n D) (hD : MapOf D m) (hm : ∀ x ∈ m, x.c < 9223372036854775808) :
    Calls Try.prog 21 #[.map (some b)] w fun e w' => e = .returned (.int .i64 ((min top (m.map Nw.c).sum : Nat) : Int)) ∧ Below w.heap.size w w' := by
  have HD : Hid (MapOf D m) := hD
  have HM : Hid (∀ x ∈ m, x.c < 9223372036854775808) := hm
  have HO : Hid (OM w b n D) := ho
  have hbl : b < w.heap.size := World.ownsMap.lt ho
  clear hD hm
  go_enter Try.func21, Try.ntmps21
  go_wp2_with (first
    | (at_range; refine wpList_range_own _ rfl _ 49 rfl 9 3 lawS Try.underlying49 _ b n D rfl ho ?_; intro w0 hrg0 hg0 hs0)
    | go_in)
  go_frame
  have HB0 : Hid (Below w.heap.size w w0) := ⟨hg0.os, hg0.tape, hg0.output, hg0.size, fun k hk => hg0.block k hk (by simp)⟩
  have HG0 : Hid (w0.ranges Try.prog 9 (plainElem Try.prog 3) b w.heap.size n D (Maps.has D) (Maps.size D)) := hrg0
  clear ho hrg0 hg0 hs0
  go_loopw [3] (fun s3 wr => ∃ (left : Lit → Bool) (cnt t : Nat), s3 = .int .i64 (t : Nat) ∧ wr.ranges Try.prog 9 (plainElem Try.prog 3) b w.heap.size n D left cnt ∧ Hid (t = min top (metC left m)) ∧ Hid ((∀ s, left (keyL s) = true → Maps.has D (keyL s) = true) ∧ Below w.heap.size w wr))
    (fun _ wr => wr.rangeLeft b w.heap.size)
  case atStart => exact ⟨_, _, 0, rfl, HG0.out, by show _ = _; rw [HD.out.start]; rfl, (⟨fun s h => h, HB0.out⟩ : _ ∧ _)⟩
  case round =>
    obtain ⟨left, cnt, t, rfl, hrg, HT, HL⟩ := hrel
    go_wp2_with (first
      | (at_next; refine wpList_next_ranges (α := ByteArray) (β := Int) _ rfl _ rfl 9 lawS (plainElem Try.prog 3) Value.string (Value.int .i64) (fun key kl h => by obtain ⟨x, rfl, _⟩ := key_inv h; exact ⟨x, rfl⟩) (fun v y h => by obtain ⟨c, rfl, _⟩ := plainElem_int_inv Try.underlying3 h; exact ⟨c, rfl⟩) b w.heap.size n _ _ _ rfl hrg ?_ ?_)
      | go_in)
    · intro hc0 hl0
      have HF : Hid (t = min top (m.map Nw.c).sum) := by show _ = _; rw [HT.out, met_all hl0]
      clear HT hl0
      go_wp2
      go_ret
      exact ⟨ret_int (by rw [HF.out]), HL.out.2⟩
    · intro x c kl y ys w1 cnt1 hkx hlk hRy hat hrg1 hlt hg1 hs1 hen
      obtain ⟨x', ex, rfl⟩ := key_inv hkx
      cases ex
      obtain ⟨z, hz, rfl⟩ := HD.out.of_has (HL.out.1 _ hlk)
      obtain ⟨c', ec, ey, _⟩ := plainElem_int_inv Try.underlying3 hRy
      cases ec
      cases ey
      have hc : c = (z.c : Int) := by
        have h1 := hat (.lit (.int .i64 0))
        rw [HD.out.at_ z hz] at h1
        simp at h1
        exact h1.symm
      subst hc
      obtain ⟨T, eT⟩ : ∃ T, T = min top (t + z.c) := ⟨_, rfl⟩
      have HT1 : Hid (T = min top (metC (fun u => left u && !u.sameKey (keyL z.k)) m)) := by
        show _ = _
        rw [eT, HT.out, min_min, met_step HD.out.apart hz hlk]
      have HL1 : Hid ((∀ s, (left (keyL s) && !(keyL s).sameKey (keyL z.k)) = true → Maps.has D (keyL s) = true) ∧ Below w.heap.size w w1) :=
        (⟨fun s h => HL.out.1 s (Bool.and_eq_true_iff.1 h).1, HL.out.2.grown hg1 HL.out.2.size (fun j hj => by cases hj; exact Nat.le_refl _)⟩ : _ ∧ _)
      have ht : t ≤ top := by rw [HT.out]; exact Nat.min_le_left _ _
      have ks := fun W => sum2 t z.c ht (HM.out z hz) W
      rw [← eT] at ks
      obtain ⟨C, eC⟩ : ∃ C, C = z.c := ⟨_, rfl⟩
      rw [← eC] at ks hen ⊢
      have HR : Hid (w1.ranges Try.prog 9 (plainElem Try.prog 3) b w.heap.size n D (fun u => left u && !u.sameKey (keyL z.k)) cnt1 ∧ wr.rangeLeft b w.heap.size = cnt ∧ cnt1 < cnt) := (⟨hrg1, hrg.left_eq, hlt⟩ : _ ∧ _ ∧ _)
      clear hkx hlk hRy hat hrg1 hlt hg1 hs1 eT eC HT HL hz ht hrg
      go_wp2_with (go_at_call 31; refine (ks _).mono ?_; rintro e w2 ⟨rfl, rfl⟩)
      have hrg2 := HR.out.1.alloc (.cells #[.int .i64 (t : Int), .int .i64 (C : Int)] 3)
      go_roundw
      case rel => exact ⟨_, cnt1, T, rfl, hrg2, HT1.out, (⟨HL1.out.1, Below.after HL1.out.2 (below_new _ _)⟩ : _ ∧ _)⟩
      case measure => rw [hrg2.left_eq, HR.out.2.1]; exact HR.out.2.2
end Go.Proofs.Ytplhlbajgijohab
