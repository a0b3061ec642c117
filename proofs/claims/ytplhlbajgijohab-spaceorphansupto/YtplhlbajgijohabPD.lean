/-
  Change and Room, whole.
-/
import Derived.Test.YtplhlbajgijohabPC
namespace Go.Proofs.Ytplhlbajgijohab
open Go.ChangeShapes Go.WideShapes Go.ChangeAt Go.RowKit Go.Deep
set_option maxRecDepth 10000

/-- What the nodes cost that a list leaves. -/
def aft (l : List Nw) : Nat := min top ((doneL [] l).map Nw.c).sum
theorem mem_inL {m : List Nw} {n x : Nw} (h : x ∈ inL m n) : x ∈ m ∨ x = n := by
  rcases List.mem_append.1 h with h | h
  · exact .inl (List.mem_filter.1 h).1
  · cases hg : n.g with
    | true => rw [hg] at h; simp at h
    | false => rw [hg] at h; simp at h; exact .inr h
theorem mem_doneL : ∀ {g m : List Nw} {x : Nw}, x ∈ doneL m g → x ∈ m ∨ x ∈ g
  | [], _, _, h => .inl h
  | n :: g, m, x, h => by
    rcases mem_doneL (g := g) (m := inL m n) h with q | q
    · rcases mem_inL q with q | q
      · exact .inl q
      · exact .inr (by rw [q]; exact List.mem_cons_self ..)
    · exact .inr (List.mem_cons_of_mem _ q)
def okK (l : List Nw) : Prop := (∀ y ∈ l, y.k.size ≤ 140737488355328) ∧ ∀ y ∈ l, y.v.size ≤ 140737488355328
theorem okK_c {l : List Nw} (h : okK l) : ∀ x ∈ l, x.c < 9223372036854775808 := fun x hx => cst_lt (h.1 x hx) (h.2 x hx)
theorem run_makeMap_hint {P : Program} {t k e : TypeId} (ht : P.underlying t = some (.map k e)) (n : Int) (w : World) : (Instr.makeMap t (some (.int .i64 n))).run P w = .ok (.map (some w.heap.size)) (w.alloc (.map #[] 0)) := by
  simp [Instr.makeMap, run_underlying ht, asInt, asIntOf, Result.andThen]
/-- The map behind a list. -/
structure Cg (w : World) (n : Nat) (m : List Nw) (wr : World) : Prop where
  below : Below w.heap.size w wr
  own : ∃ D : DataW Unit, OM wr w.heap.size n D ∧ MapOf D m
theorem Cg.later {w wr w' : World} {n : Nat} {m : List Nw} (h : Cg w n m wr) (hb : Below wr.heap.size wr w') : Cg w n m w' := by
  obtain ⟨D, h1, h2⟩ := h.own
  exact ⟨Below.after h.below hb, D, h1.later hb, h2⟩
theorem Cg.make (w : World) : Cg w 0 [] (w.alloc (.map #[] 0)) := ⟨below_new _ _, .map [], World.ownsMap_made _ _ _ _, mapOf_nil⟩
theorem Cg.chd {w wr w' : World} {n n' : Nat} {m m' : List Nw} (h : Cg w n m wr) (c : Chd Unit w.heap.size n' m' wr w') : Cg w n' m' w' := by
  obtain ⟨D, h1, h2⟩ := c.own
  refine ⟨h.below.grown c.grown h.below.size (fun j hj => by cases hj; exact Nat.le_refl _), D, h1, h2⟩
theorem Cg.change {w wr : World} {n : Nat} {m : List Nw} (h : Cg w n m wr) {a : Option Addr} {len cap : Nat} {l : List Nw} (hl : NArg w a len cap l) (hn : n + len < 9223372036854775807) :
    Calls Try.prog 20 #[.map (some w.heap.size), .slice a len cap] wr fun e w' => e = .returned (.tuple #[]) ∧ Cg w (n + len) (doneL m l) w' := by
  obtain ⟨D, h1, h2⟩ := h.own
  refine (change_any w.heap.size n D m a len cap l wr (hl.later h.below) h1 h2 hn).mono ?_
  rintro e w' ⟨rfl, c⟩
  exact ⟨rfl, h.chd c⟩
theorem Cg.total {w wr : World} {n : Nat} {m : List Nw} (h : Cg w n m wr) (hm : ∀ x ∈ m, x.c < 9223372036854775808) :
    Calls Try.prog 21 #[.map (some w.heap.size)] wr fun e w' => e = .returned (.int .i64 ((min top (m.map Nw.c).sum : Nat) : Int)) ∧ Cg w n m w' := by
  obtain ⟨D, h1, h2⟩ := h.own
  refine (total_any w.heap.size n D m wr h1 h2 hm).mono ?_
  rintro e w' ⟨rfl, hb⟩
  exact ⟨rfl, h.later hb⟩

set_option maxHeartbeats 4000000 in
theorem changeC_any (a : Option Addr) (len cap : Nat) (l : List Nw) (a2 : Option Addr) (len2 cap2 : Nat) (g : List Nw) (w : World) (hl : NArg w a len cap l) (hg : NArg w a2 len2 cap2 g) (h1 : len ≤ 140737488355328) (h2 : len2 ≤ 140737488355328) :
    Calls Try.prog 7 #[.slice a len cap, .slice a2 len2 cap2] w fun e w' => e = .returned (.tuple #[.int .i64 ((aft l : Nat) : Int), .int .i64 ((aft (l ++ g) : Nat) : Int)]) ∧ Below w.heap.size w w' := by
  have hmm : ∀ (n : Int) (W : World), (Instr.makeMap 49 (some (.int .i64 n))).run Try.prog W = .ok (.map (some W.heap.size)) (W.alloc (.map #[] 0)) := fun n W => run_makeMap_hint Try.underlying49 n W
  have c0 : Hid (Cg w 0 [] (w.alloc (.map #[] 0))) := Cg.make w
  have hkl : okK l := ⟨hl.keys, hl.vals⟩
  have hkg : okK g := ⟨hg.keys, hg.vals⟩
  have k1 : ∀ wr, Cg w 0 [] wr → Calls Try.prog 20 #[.map (some w.heap.size), .slice a len cap] wr fun e w' => e = .returned (.tuple #[]) ∧ Cg w (0 + len) (doneL [] l) w' := fun wr h => h.change hl (by omega)
  have k2 : ∀ wr, Cg w (0 + len) (doneL [] l) wr → Calls Try.prog 21 #[.map (some w.heap.size)] wr fun e w' => e = .returned (.int .i64 ((aft l : Nat) : Int)) ∧ Cg w (0 + len) (doneL [] l) w' :=
    fun wr h => h.total (fun x hx => (mem_doneL hx).elim (fun q => by simp at q) (fun q => okK_c hkl x q))
  have k3 : ∀ wr, Cg w (0 + len) (doneL [] l) wr → Calls Try.prog 20 #[.map (some w.heap.size), .slice a2 len2 cap2] wr fun e w' => e = .returned (.tuple #[]) ∧ Cg w (0 + len + len2) (doneL [] (l ++ g)) w' :=
    fun wr h => by rw [doneL_app]; exact h.change hg (by omega)
  have k4 : ∀ wr, Cg w (0 + len + len2) (doneL [] (l ++ g)) wr → Calls Try.prog 21 #[.map (some w.heap.size)] wr fun e w' => e = .returned (.int .i64 ((aft (l ++ g) : Nat) : Int)) ∧ Cg w (0 + len + len2) (doneL [] (l ++ g)) w' :=
    fun wr h => h.total (fun x hx => (mem_doneL hx).elim (fun q => by simp at q) (fun q => (List.mem_append.1 q).elim (fun q => okK_c hkl x q) (fun q => okK_c hkg x q)))
  generalize aft l = A at *
  generalize aft (l ++ g) = B at *
  generalize doneL [] l = M1 at *
  generalize doneL [] (l ++ g) = M2 at *
  clear hl hg hkl hkg h1 h2
  have K1 : Hid True := trivial
  have K2 : Hid True := trivial
  go_enter Try.func7, Try.ntmps7
  go_wp2_with (first
    | (go_at_call 20; clear K1; refine (k1 _ c0.out).mono ?_; rintro e w1 ⟨rfl, h⟩; have c1 : Hid (Cg w (0 + len) M1 w1) := h; clear h k1)
    | (go_at_call 21; clear K2; refine (k2 _ c1.out).mono ?_; rintro e w2 ⟨rfl, h⟩; have c2 : Hid (Cg w (0 + len) M1 w2) := h; clear h k2)
    | (go_at_call 20; refine (k3 _ c2.out).mono ?_; rintro e w3 ⟨rfl, h⟩; have c3 : Hid (Cg w (0 + len + len2) M2 w3) := h; clear h k3)
    | (go_at_call 21; refine (k4 _ c3.out).mono ?_; rintro e w4 ⟨rfl, h⟩; have c4 : Hid (Cg w (0 + len + len2) M2 w4) := h; clear h k4))
  (try simp only [Exit.inBlock, Exit.then])
  refine bodyPost_ret (results_tmp2 rfl _ _ _) rfl ?_
  exact ⟨rfl, c4.out.below⟩

/-- What Room answers. -/
def roomF (l g : List Nw) (limit : Int) : Int := if max limit ((aft l : Nat) : Int) < ((aft (l ++ g) : Nat) : Int) then 28 else 0
set_option maxHeartbeats 2000000 in
theorem roomC_any (a : Option Addr) (len cap : Nat) (l : List Nw) (a2 : Option Addr) (len2 cap2 : Nat) (g : List Nw) (limit : Int) (w : World) (hl : NArg w a len cap l) (hg : NArg w a2 len2 cap2 g) (h1 : len ≤ 140737488355328) (h2 : len2 ≤ 140737488355328) :
    Calls Try.prog 8 #[.slice a len cap, .slice a2 len2 cap2, .int .i64 limit] w fun e w' => e = .returned (.int .i64 (roomF l g limit)) ∧ Below w.heap.size w w' := by
  have kc := changeC_any a len cap l a2 len2 cap2 g w hl hg h1 h2
  have HR : Hid (roomF l g limit = if max limit ((aft l : Nat) : Int) < ((aft (l ++ g) : Nat) : Int) then 28 else 0) := rfl
  generalize roomF l g limit = R at *
  generalize aft l = A at *
  generalize aft (l ++ g) = B at *
  clear hl hg h1 h2
  by_cases h : max limit (A : Int) < (B : Int)
  · have HR2 : Hid (R = 28) := by show _ = _; rw [HR.out, if_pos h]
    clear HR
    go_enter Try.func8, Try.ntmps8
    go_wp2_with (go_at_call 7; refine kc.mono ?_; rintro e w1 ⟨rfl, hb⟩)
    go_ret
    exact ⟨ret_int (by rw [HR2.out]), hb⟩
  · have HR2 : Hid (R = 0) := by show _ = _; rw [HR.out, if_neg h]
    clear HR
    go_enter Try.func8, Try.ntmps8
    go_wp2_with (go_at_call 7; refine kc.mono ?_; rintro e w1 ⟨rfl, hb⟩)
    go_ret
    exact ⟨ret_int (by rw [HR2.out]), hb⟩
end Go.Proofs.Ytplhlbajgijohab
