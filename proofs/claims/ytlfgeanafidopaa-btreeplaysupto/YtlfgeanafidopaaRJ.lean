/-
  The document's counts: so many keys as may be.
  The document's first: the first leaf under each node.
-/
import Derived.Test.YtlfgeanafidopaaRI
namespace Go.Proofs.Ytlfgeanafidopaa.Bt
open Go.RowKit Go.Shelf
set_option maxRecDepth 10000

def least (F L k : Nat) : Nat := if k = 0 then (if L = 1 then 0 else 2) else F / 2
/-- What counts asks of a shape. -/
structure Cnt (w : World) (F L k : Nat) (s : Shc) : Prop where
  keys : Whole w s.B (s.s.ks.map Value.string) 9
  le : s.s.ks.length ≤ F
  ge : least F L k ≤ s.s.ks.length
  srt : Ksrt s.s.ks
  size : ∀ k ∈ s.s.ks, k.size ≤ maxLen
theorem whole_drewN {w : World} {B q : Nat} {cs : List Value} {t : TypeId} (h : Whole w B cs t) : Whole (w.drewN q) B cs t := h.later (below_drawn w q)
set_option maxHeartbeats 8000000 in
theorem counts_any {w : World} {G cap : Nat} {RR : List (List Shc)} (h : LvAt w G cap RR) {F : Nat} (hF : F ≤ 1000000) (hR : RR.length ≤ 100000000) (hrl : ∀ r ∈ RR, r.length ≤ 100000000) (hc : ∀ (k : Nat) (r : List Shc), RR[k]? = some r → ∀ s ∈ r, Cnt w F RR.length k s) :
    Calls Try.prog 40 #[.slice (some ⟨G, 0, none⟩) RR.length cap, .int .i64 (F : Nat)] w fun e w' => e = .returned (.bool true) ∧ ∃ q, w' = w.drewN q := by
  have HR : Hid (∀ k, k < RR.length → ∃ (r : List Shc) (b c L : Nat), L = r.length ∧ L ≤ 100000000 ∧ w.cell? ⟨G, k, none⟩ = some (.slice (some ⟨b, 0, none⟩) L c) ∧ ∀ i, i < L → ∃ (B N : Nat), w.cell? ⟨b, i * 3 + 1, none⟩ = some (.slice (some ⟨B, 0, none⟩) N N) ∧ N ≤ F ∧ least F RR.length k ≤ N ∧ ∀ q, Calls Try.prog 61 #[.slice (some ⟨B, 0, none⟩) N N] (w.drewN q) fun e w' => e = .returned (.bool true) ∧ ∃ q', w' = (w.drewN q).drewN q') := fun k hk => by
    have hg := List.getElem?_eq_getElem hk
    obtain ⟨b, c, q1, q2⟩ := h.rows k _ hg
    refine ⟨_, b, c, _, rfl, hrl _ (List.getElem_mem hk), q1, fun i hi => ?_⟩
    have hgi := List.getElem?_eq_getElem hi
    have hcc := hc k _ hg _ (List.getElem_mem hi)
    exact ⟨_, _, (q2.cells hgi).2.1, hcc.le, hcc.ge, fun q => rise_any (whole_drewN hcc.keys) hcc.srt hcc.size (by have := hcc.le; omega) _⟩
  obtain ⟨L, hL⟩ : ∃ L, L = RR.length := ⟨_, rfl⟩
  rw [← hL] at HR hR ⊢
  clear h hc hrl hL
  have hq2 : Int.tdiv (F : Int) 2 = ((F / 2 : Nat) : Int) := rfl
  go_enter Try.func40, Try.ntmps40
  go_wp2
  go_loopg [5] L (fun kx s wr => ∃ k q : Nat, k + kx = L ∧ s = .int .i64 (k : Nat) ∧ wr = w.drewN q)
  case atStart => exact ⟨0, 0, by omega, rfl, rfl⟩
  case round =>
    obtain ⟨k, q, hk, rfl, rfl⟩ := hrel
    by_cases hlt : k < L
    · obtain ⟨r, b, c, N, hN, hNb, q1, hrow⟩ := HR.out k hlt
      have HRow : Hid (∀ i, i < N → ∃ (B M : Nat), w.cell? ⟨b, i * 3 + 1, none⟩ = some (.slice (some ⟨B, 0, none⟩) M M) ∧ M ≤ F ∧ least F L k ≤ M ∧ ∀ q, Calls Try.prog 61 #[.slice (some ⟨B, 0, none⟩) M M] (w.drewN q) fun e w' => e = .returned (.bool true) ∧ ∃ q', w' = (w.drewN q).drewN q') := hrow
      have hk1 : (k : Int) < (L : Int) := by omega
      have hk2 : (0 : Int) ≤ (k : Int) := by omega
      clear hN hrow
      go_wp2
      go_loopg [6] N (fun kx s wr => ∃ i q : Nat, i + kx = N ∧ s = .int .i64 (i : Nat) ∧ wr = w.drewN q)
      case atStart => exact ⟨0, q, by omega, rfl, rfl⟩
      case round =>
        obtain ⟨i, q5, hi, rfl, rfl⟩ := hrel
        by_cases hlt2 : i < N
        · obtain ⟨B, M, x1, x2, x3, x4⟩ := HRow.out i hlt2
          have HX : Hid (∀ q, Calls Try.prog 61 #[.slice (some ⟨B, 0, none⟩) M M] (w.drewN q) fun e w' => e = .returned (.bool true) ∧ ∃ q', w' = (w.drewN q).drewN q') := x4
          have hi1 : (i : Int) < (N : Int) := by omega
          have hi2 : (0 : Int) ≤ (i : Int) := by omega
          have c1 : ¬ (F : Int) < (M : Int) := by omega
          unfold least at x3
          clear x4
          by_cases z : k = 0
          · subst z
            by_cases z1 : L = 1
            · subst z1
              have c2 : ¬ (M : Int) < 0 := by omega
              go_wp2_with (go_at_call 61; refine (HX.out _).mono ?_; rintro e W1 ⟨rfl, q7, rfl⟩)
              go_roundg (N - (i + 1))
              case measure => omega
              case rel => exact ⟨i + 1, _, by omega, by go_num, rfl⟩
            · have c2 : ¬ (M : Int) < 2 := by rw [if_pos rfl, if_neg z1] at x3; omega
              have c3 : ¬ (L : Int) = 1 := by omega
              go_wp2_with (go_at_call 61; refine (HX.out _).mono ?_; rintro e W1 ⟨rfl, q7, rfl⟩)
              go_roundg (N - (i + 1))
              case measure => omega
              case rel => exact ⟨i + 1, _, by omega, by go_num, rfl⟩
          · have c2 : ¬ (M : Int) < ((F / 2 : Nat) : Int) := by rw [if_neg z] at x3; omega
            have c3 : ¬ (k : Int) = 0 := by omega
            have c4 : IntKind.i64.wrap ((F / 2 : Nat) : Int) = ((F / 2 : Nat) : Int) := by rw [IntKind.wrap_i64]; omega
            obtain ⟨F2, hF2⟩ : ∃ F2, F2 = F / 2 := ⟨_, rfl⟩
            rw [← hF2] at c2 c4 hq2
            clear hF2 x3
            go_wp2_with (go_at_call 61; refine (HX.out _).mono ?_; rintro e W1 ⟨rfl, q7, rfl⟩)
            go_roundg (N - (i + 1))
            case measure => omega
            case rel => exact ⟨i + 1, _, by omega, by go_num, rfl⟩
        · have hi1 : ¬ (i : Int) < (N : Int) := by omega
          go_wp2
          go_roundg (L - (k + 1))
          case measure => omega
          case rel => exact ⟨k + 1, _, by omega, by go_num, rfl⟩
    · have hk1 : ¬ (k : Int) < (L : Int) := by omega
      go_wp2
      go_ret
      exact ⟨rfl, q, rfl⟩
end Go.Proofs.Ytlfgeanafidopaa.Bt
namespace Go.Proofs.Ytlfgeanafidopaa.Bt
open Go.RowKit Go.Shelf
set_option maxRecDepth 10000

theorem LvAt.later {W W' : World} {G cap : Nat} {RR : List (List Shc)} (h : LvAt W G cap RR) (hb : Below W.heap.size W W') : LvAt W' G cap RR :=
  ⟨h.le, fun k r hk => by
    obtain ⟨b, c, h1, h2⟩ := h.rows k r hk
    exact ⟨b, c, (hb.cell (World.block_lt_of_cell? W _ h1)).trans h1, h2.later hb⟩⟩
/-- So many keys lie in a row's first nodes. -/
def cum (r : List Shc) (i : Nat) : Nat := ((r.take i).map fun s => s.s.ks.length).sum
theorem cum_zero (r : List Shc) : cum r 0 = 0 := rfl
theorem cum_succ {r : List Shc} {i : Nat} {s : Shc} (h : r[i]? = some s) : cum r (i + 1) = cum r i + s.s.ks.length := by
  unfold cum
  rw [List.take_add_one, h, List.map_append, List.sum_append]
  simp
theorem cum_le (r : List Shc) (i : Nat) : cum r i ≤ cum r r.length := by
  unfold cum
  rw [List.take_length]
  conv => rhs; rw [← List.take_append_drop i r, List.map_append, List.sum_append]
  omega
/-- The numbers that first tells. -/
def fstL : List (List Shc) → List Nat
  | [] => []
  | r :: [] => List.range (r.length + 1)
  | r :: r2 :: rs => (List.range (r.length + 1)).map fun i => (fstL (r2 :: rs)).getD (cum r i) 0
theorem fstL_len : ∀ (r : List Shc) (rs : List (List Shc)), (fstL (r :: rs)).length = r.length + 1
  | r, [] => by simp [fstL]
  | r, r2 :: rs => by simp [fstL]
theorem fstL_zero : ∀ (r : List Shc) (rs : List (List Shc)), (fstL (r :: rs)).getD 0 0 = 0
  | r, [] => by simp [fstL]
  | r, r2 :: rs => by
    have := fstL_zero r2 rs
    simp [fstL, cum_zero, List.getD_eq_getElem?_getD] at this ⊢
    exact this
def intV (n : Nat) : Value := .int .i64 (n : Int)
theorem infoInt1 : (Try.prog.info? 3).map (fun i => (i.zero, i.size, i.bytes)) = some (some (.int .i64 0), 1, 8) := by kernel_rfl
/-- A list of numbers. -/
def Ints (W : World) (base : Nat) (v : Value) (l : List Nat) : Prop := W.ownsRow base 3 1 v l.length (l.map intV)
theorem wpList_append_int {w : World} {ops : Array Oper} {rest : List Oper} {o : Oper} {a : Act} {Q : Exit → Act → World → Prop} (hgd : o.guard = none) (s x : Operand)
    (ho : o.op = .call { callee := .builtin .append, args := #[s, x], argTypes := #[59, 59] })
    (base : Nat) (v : Value) (n : Nat) (vs : List Value) (hs : a.eval s = v) (hown : w.ownsRow base 3 1 v n vs)
    (g : Nat) (u : Value) (hx : a.eval x = .slice (some ⟨g, 0, none⟩) 1 1) (hu : w.cell? ⟨g, 0, none⟩ = some u) (h1 : u.oneCell' = true) (hb : n ≤ 1000000000) (hbase : base ≤ w.heap.size)
    (h : ∀ v' w', w'.ownsRow base 3 1 v' (n + 1) (vs ++ [u]) → w.grownBy w' v.ownBlock → wpList Try.prog ops Q rest (a.put o.dst v') w') : wpList Try.prog ops Q (o :: rest) a w := by
  obtain ⟨i0, hi, hz0, hz1, hz2⟩ := info_parts infoInt1
  refine wpList_append_own w hgd s x 59 ho base 3 i0 _ 1 8 Try.underlying59 hi hz0 hz1 hz2 rfl (by omega) v n _ hs hown ⟨g, 0, none⟩ 1 1 [u] hx rfl ?_ ?_ (by unfold maxLen; omega) (by omega) hbase (fun v' w' q1 q2 _ => h v' w' q1 q2)
  · intro j z hj
    cases j with
    | zero => simp at hj; subst hj; rw [show (⟨g, 0, none⟩ : Addr).add 0 = ⟨g, 0, none⟩ by unfold Addr.add; split <;> simp_all]; exact hu
    | succ j => simp at hj
  · intro z hz; rw [List.mem_singleton.1 hz]; exact h1
theorem int_new (w : World) (x : Nat) : (w.alloc (.cells #[intV x] 3)).cell? ⟨w.heap.size, 0, none⟩ = some (intV x) := by
  have := Row.new w [intV x] 3
  exact this.cell (i := 0) rfl
theorem Ints.push {w X W' : World} (hX : Below w.heap.size w X) {v v' : Value} {n : Nat} {l : List Nat} {x : Nat} (hn : n = l.length) (h : Ints X w.heap.size v l) (ho : W'.ownsRow w.heap.size 3 1 v' (n + 1) (l.map intV ++ [intV x])) (hg : X.grownBy W' v.ownBlock) : Ints W' w.heap.size v' (l ++ [x]) ∧ Below w.heap.size w W' := by
  refine ⟨?_, hX.grown hg hX.size (fun k ek => (h.lt k ek).1)⟩
  unfold Ints
  rw [List.length_append, List.map_append, ← hn]
  exact ho
theorem Ints.later {W W' : World} {base : Nat} {v : Value} {l : List Nat} (h : Ints W base v l) (hb : Below W.heap.size W W') : Ints W' base v l := own_lat h hb
theorem Ints.cell {W : World} {base G n cap : Nat} {l : List Nat} (h : Ints W base (.slice (some ⟨G, 0, none⟩) n cap) l) {k x : Nat} (hk : l[k]? = some x) : W.cell? ⟨G, k, none⟩ = some (.int .i64 (x : Int)) := by
  rcases h.2 with ⟨e, _⟩ | ⟨g, cap', cur, e, _, hgg, hnc, hcm, _, ht⟩
  · cases e
  · cases e
    have hw : Whole W G cur.toList 3 := by unfold Whole; simpa using hgg
    have hlt := (List.getElem?_eq_some_iff.1 hk).1
    rw [hw.cell]
    have : (cur.toList.take (l.length * 1))[k]? = (l.map intV)[k]? := by rw [ht]
    rw [List.getElem?_take, if_pos (by omega), List.getElem?_map, hk] at this
    exact this
theorem Ints.len {W : World} {base : Nat} {a : Option Addr} {n cap : Nat} {l : List Nat} (h : Ints W base (.slice a n cap) l) : n = l.length := by
  rcases h.2 with ⟨e, e0⟩ | ⟨g, cap', cur, e, _⟩
  · cases e; exact e0.symm
  · cases e; rfl
end Go.Proofs.Ytlfgeanafidopaa.Bt
