/-
  Victims, of any book.
-/
import Derived.Test.YtmaekpfkkpkgpaaGreatDoorSCmp
namespace Go.Proofs.YtmaekpfkkpkgpaaGreatDoor
open Go.RowKit
set_option maxRecDepth 10000

theorem thoseF_mem (pr : PB → Bool) : ∀ (l : List PB) (k : Nat) (x : Int), x ∈ thoseF pr k l ↔ ∃ i y, l[i]? = some y ∧ x = ((k + i : Nat) : Int) ∧ pr y = true
  | [], k, x => by simp [thoseF]
  | z :: l, k, x => by
    have ih := thoseF_mem pr l (k + 1) x
    have e : x ∈ thoseF pr k (z :: l) ↔ (x = (k : Int) ∧ pr z = true) ∨ x ∈ thoseF pr (k + 1) l := by
      rw [thoseF]
      by_cases hz : pr z = true
      · simp [hz]
      · simp [hz]
    rw [e, ih]
    constructor
    · rintro (⟨h1, h2⟩ | ⟨i, y, h1, h2, h3⟩)
      · exact ⟨0, z, rfl, h1, h2⟩
      · exact ⟨i + 1, y, by simpa using h1, by rw [h2]; congr 1; omega, h3⟩
    · rintro ⟨i, y, h1, h2, h3⟩
      rcases i with _ | i
      · simp at h1
        subst h1
        exact .inl ⟨h2, h3⟩
      · exact .inr ⟨i, y, by simpa using h1, by rw [h2]; congr 1; omega, h3⟩
theorem thoseF_up (pr : PB → Bool) : ∀ (l : List PB) (k : Nat), (thoseF pr k l).Pairwise (· < ·)
  | [], k => List.Pairwise.nil
  | z :: l, k => by
    have ih := thoseF_up pr l (k + 1)
    rw [thoseF]
    split
    · refine List.pairwise_cons.2 ⟨fun x hx => ?_, ih⟩
      obtain ⟨i, y, _, h2, _⟩ := (thoseF_mem pr l (k + 1) x).1 hx
      omega
    · exact ih
theorem row_kept {S : Nat → Prop} {w W : World} {b : Nat} {cs : List Value} {t : TypeId} (h : Row w b cs t) (hk : Kept S w W) (hn : ¬ S b) : Row W b cs t := by
  have hl := h.lt
  obtain ⟨r, h⟩ := h
  exact ⟨r, by rw [hk.block b hl hn]; exact h⟩
/-- What Victims hands back. -/
def Out (w : World) (v : Value) (Z : List Int) : Prop := (v = .slice none 0 0 ∧ Z = []) ∨ ∃ g cap, v = .slice (some ⟨g, 0, none⟩) Z.length cap ∧ Row w g (Z.map iv) 3 ∧ Z.length ≤ cap ∧ cap ≤ maxLen
theorem sort_any {w W : World} {g cap bb n : Nat} {V : List Int} {T lt : Int → Int → Prop} {U : List Int} (hT : Ord T) (hc : Cmp w g U lt cmpF #[.pointer (some ⟨bb, 0, none⟩)]) (hU : ∀ y ∈ V, y ∈ U) (hV : Row0 T lt V) (hn2 : n ≤ 256) (hn : V.length = n) (h : Dt w g V W) :
    Calls Tryz.prog 50 #[.slice (some ⟨g, 0, none⟩) n cap, cmpV bb] W fun e w' => e = .returned (.tuple #[]) ∧ ∃ Z, Z.Perm V ∧ Sd T Z ∧ Dt w g Z w' := by
  have kI := stab_any (cap := cap) hT hc hU hV hn2 hn h
  clear hT hc hU hV hn h
  go_enter Tryz.func50, Tryz.ntmps50
  go_wp2_with (go_at_call 65; refine kI.mono ?_; rintro e w1 ⟨rfl, Z, z1, z2, z3⟩; have HZ := hidW (And.intro z1 (And.intro z2 z3)); clear z1 z2 z3)
  go_end0
  exact ⟨rfl, Z, HZ.out⟩
theorem cmp_ok {w1 : World} {p q cap bb g : Nat} {size : Int} {l : List PB} (h : BLies w1 p q cap size l) (hO : BkOk size l) (hbb : w1.cell? ⟨bb, 0, none⟩ = some (.pointer (some ⟨p, 0, none⟩))) (h1 : p ≠ g) (h2 : q ≠ g) (h3 : bb ≠ g) (pr : PB → Bool) : Cmp w1 g (thoseF pr 0 l) (ltv l) cmpF #[.pointer (some ⟨bb, 0, none⟩)] := by
  intro d W hd x hx y hy
  obtain ⟨i, X, i1, rfl, _⟩ := (thoseF_mem pr l 0 x).1 hx
  obtain ⟨j, Y, j1, rfl, _⟩ := (thoseF_mem pr l 0 y).1 hy
  have hB : BLies W p q cap size l := ⟨row_kept h.box hd.kp h1, row_kept h.row hd.kp h2, h.le, h.max⟩
  have hbW : W.cell? ⟨bb, 0, none⟩ = some (.pointer (some ⟨p, 0, none⟩)) := by
    rw [World.cell?_of_block (w := w1) (hd.kp.block bb (World.block_lt_of_cell? w1 _ hbb) h3)]
    exact hbb
  have ok : ∀ {k : Nat} {Z : PB}, l[k]? = some Z → 0 ≤ Z.live ∧ Z.live ≤ Z.used ∧ Z.used ≤ 16777216 := fun hz => by
    have q := hO.ok _ (List.mem_of_getElem? hz)
    exact ⟨q.l0, q.lu, by have := q.us; have := hO.s2; omega⟩
  have := cmp_any hB hbW (0 + i) (0 + j) (by rw [Nat.zero_add]; exact i1) (by rw [Nat.zero_add]; exact j1) (ok i1) (ok j1)
  exact this
set_option maxHeartbeats 4000000 in
theorem victims_any {w : World} {p q cap : Nat} {size : Int} {l : List PB} (h : BLies w p q cap size l) (hO : BkOk size l) (use : Int) :
    Calls Tryz.prog 20 #[.pointer (some ⟨p, 0, none⟩), .int .i64 use] w fun e w' => ∃ v Z, e = .returned v ∧ Z.Perm (thoseF (vicB use) 0 l) ∧ Sd (Tv l) Z ∧ Out w' v Z ∧ Below w.heap.size w w' := by
  obtain ⟨X, hX⟩ : ∃ X, X = (w.alloc (.cells #[.pointer (some ⟨p, 0, none⟩)] 23)).alloc (.cells #[.int .i64 use] 3) := ⟨_, rfl⟩
  have hb : Below w.heap.size w X := by rw [hX]; exact Below.after (below_new _ _) (below_new _ _)
  have hu : X.cell? ⟨w.heap.size + 1, 0, none⟩ = some (.int .i64 use) := by
    rw [hX]
    have := (Row.new (w.alloc (.cells #[.pointer (some ⟨p, 0, none⟩)] 23)) [.int .i64 use] 3).cell (i := 0) rfl
    rw [World.size_alloc] at this
    exact this
  have hp0 : ((w.alloc (.cells #[.pointer (some ⟨p, 0, none⟩)] 23)).alloc (.cells #[.int .i64 use] 3)).cell? ⟨w.heap.size, 0, none⟩ = some (.pointer (some ⟨p, 0, none⟩)) := ((Row.new w [.pointer (some ⟨p, 0, none⟩)] 23).alloc _).cell (i := 0) rfl
  have hpX : X.cell? ⟨w.heap.size, 0, none⟩ = some (.pointer (some ⟨p, 0, none⟩)) := by rw [hX]; exact hp0
  have hsz : w.heap.size + 1 < X.heap.size := by rw [hX]; simp
  have kT := those_vict (h.later hb) hO.n2 (vicB use) (w.heap.size + 1) (fun Y x hY hx => vict1_any x use (w.heap.size + 1) Y ((hY.cell (p := ⟨w.heap.size + 1, 0, none⟩) hsz).trans hu) (hO.ok x hx).l0 (hO.ok x hx).lu (by have := (hO.ok x hx).us; have := hO.s2; omega))
  have HB := hidW hb
  have hmf : ∀ (fn : Fn) (first cap : Array Value) (w : World), (Instr.makeFunc fn first cap).run Tryz.prog w = .ok (.func fn first cap) w := fun _ _ _ _ => rfl
  have HH := hidW (And.intro (h.later hb) (And.intro hO (And.intro hpX hsz)))
  have HPl := hidW (And.intro h.box.lt h.row.lt)
  clear h hO hb hu
  go_enter Tryz.func20, Tryz.ntmps20
  go_wp2_with fail
  rw [← hX]
  clear hX hp0 hpX
  refine kT.mono ?_
  rintro e w1 ⟨v, rfl, ho, hb1⟩
  obtain ⟨V, hV⟩ : ∃ V, V = thoseF (vicB use) 0 l := ⟨_, rfl⟩
  have hVl : V.length ≤ 256 := by rw [hV]; exact Nat.le_trans (thoseF_len _ _ _) HH.out.2.1.n2
  have HB1 := hidW (Below.after HB.out hb1)
  rcases ho.2 with ⟨rfl, h0⟩ | ⟨g, cc, cur, rfl, g1, g2, g3, g4, g5, g6⟩
  · have hV0 : V = [] := List.eq_nil_of_length_eq_zero (by rw [hV]; exact h0)
    have HV := hidW (And.intro hV hV0)
    clear hV hV0 ho hb1 h0
    go_wp2_with (go_at_call 50; refine (sort_one none 0 0 (by omega) _ w1).mono ?_; rintro e w2 ⟨rfl, rfl⟩)
    go_ret
    exact ⟨_, [], rfl, by rw [← HV.out.1, HV.out.2], List.Pairwise.nil, .inl ⟨rfl, rfl⟩, HB1.out⟩
  · have hrow : Row w1 g (V.map iv) 3 := by
      refine ⟨cur.toList.drop (V.length * 1), ?_⟩
      have e1 : V.map iv = cur.toList.take (V.length * 1) := by rw [hV]; exact g6.symm
      rw [g2, e1, List.take_append_drop]
    have hDt : Dt w1 g V w1 := ⟨hrow, .refl _ _⟩
    have hpg := HPl.out
    have hlies := HH.out.1.later hb1
    have hbbc : w1.cell? ⟨w.heap.size, 0, none⟩ = some (.pointer (some ⟨p, 0, none⟩)) := (hb1.cell (p := ⟨w.heap.size, 0, none⟩) (by have := HH.out.2.2.2; show w.heap.size < X.heap.size; omega)).trans HH.out.2.2.1
    have hsx := HH.out.2.2.2
    have hC := cmp_ok hlies HH.out.2.1 hbbc (g := g) (by omega) (by omega) (by omega) (vicB use)
    rw [← hV] at hC
    have kS := sort_any (cap := cc) (ord_v l) hC (fun y hy => hy) (row0_v (by rw [hV]; exact thoseF_up _ _ _)) hVl rfl hDt
    have hbel := HB1.out
    have HV := hidW hV
    rw [← hV] at g3 ⊢
    have HF := hidW (fun (w2 : World) (Z : List Int) (z1 : Z.Perm V) (z3 : Dt w1 g Z w2) => show (.slice (some ⟨g, 0, none⟩) V.length cc : Value) = .slice (some ⟨g, 0, none⟩) Z.length cc ∧ Row w2 g (Z.map iv) 3 ∧ Z.length ≤ cc ∧ cc ≤ maxLen ∧ Below w.heap.size w w2 from ⟨by rw [z1.length_eq], z3.row, by rw [z1.length_eq]; exact g3, g4, Below.trans hbel (z3.kp.below hbel.size (by intro k hk; omega))⟩)
    clear hV ho hb1 g1 g2 g3 g4 g5 g6 hrow hDt hpg hlies hbbc hsx hC hbel
    go_wp2_with (go_at_call 50; refine kS.mono ?_; rintro e w2 ⟨rfl, Z, z1, z2, z3⟩; have HZ := hidW (And.intro z1 (And.intro z2 z3)); clear z1 z2 z3)
    go_ret
    obtain ⟨f1, f2, f3, f4, f5⟩ := HF.out w2 Z HZ.out.1 HZ.out.2.2
    exact ⟨_, Z, rfl, by rw [← HV.out]; exact HZ.out.1, HZ.out.2.1, .inr ⟨g, cc, f1, f2, f3, f4⟩, f5⟩
end Go.Proofs.YtmaekpfkkpkgpaaGreatDoor
