/-
  Package ebm: Format of a chip that was used, with nothing wrong.
  A step of a script, on a manager of a chip with nothing wrong: whatever it asks, the manager is right behind it.
  does: a step of a script.
  Behind a second Format: nothing is mapped, all blocks are Free, and tell how often they were erased.
-/
import Derived.Test.YtccfalafphjkpaaGreatDoorKR
import Derived.Test.YtccfalafphjkpaaGreatDoorKQ
import Derived.Test.YtccfalafphjkpaaGreatDoorKS
import Derived.Test.YtccfalafphjkpaaGreatDoorKZ
import Derived.Test.YtccfalafphjkpaaGreatDoorKY
namespace Go.Proofs.YtccfalafphjkpaaGreatDoor
open Go.RowKit
set_option maxRecDepth 10000

theorem maxS_le {s : Int} {l : List Bl} (h0 : 0 ≤ s) (h : ∀ x ∈ l, x.seq ≤ s) : maxS l ≤ s := by
  have key : ∀ (l : List Bl) (a : Int), a ≤ s → (∀ x ∈ l, x.seq ≤ s) → l.foldl (fun a b => max a b.seq) a ≤ s := by
    intro l
    induction l with
    | nil => intro a ha _; exact ha
    | cons x l ih =>
      intro a ha hl
      rw [List.foldl_cons]
      exact ih _ (by have := hl x (by simp); omega) (fun y hy => hl y (by simp [hy]))
  exact key l 0 h0 h
theorem amongN_none (zs : List Int) : ∀ (l : List Bl) (k : Nat), (∀ x ∈ l, zs.contains x.st = false) → amongN zs k l = []
  | [], _, _ => rfl
  | x :: l, k, h => by
    unfold amongN
    rw [if_neg (by rw [h x (by simp)]; decide)]
    exact amongN_none zs l (k + 1) (fun y hy => h y (by simp [hy]))
theorem amongN_whole (zs : List Int) : ∀ (l : List Bl) (k : Nat), (∀ x ∈ l, zs.contains x.st = true) → amongN zs k l = List.range' k l.length
  | [], _, _ => rfl
  | x :: l, k, h => by
    unfold amongN
    rw [if_pos (h x (by simp)), amongN_whole zs l (k + 1) (fun y hy => h y (by simp [hy]))]
    rfl
/-- All blocks of a right manager are Free or Mapped, where all is fine. -/
theorem fine_st {t : Nat} {m : Mg} {c : CS} {P : List (List (List Nat))} (h : MRep t m c P) (hf : Fine c) {i : Nat} {x : Bl} (hx : m.bl[i]? = some x) : x.st = 2 ∨ x.st = 4 := by
  have hi : i < c.gb := by rw [← h.rb.lb]; exact (List.getElem?_eq_some_iff.1 hx).1
  obtain ⟨b, y, p, hb, hy, _, hk, _⟩ := h.rb.at hi
  rw [hx] at hy
  cases hy
  have h3 := h.sp i x hx
  cases hk with
  | bad hbad => rw [hf.2 b (List.mem_of_getElem? hb)] at hbad; cases hbad
  | free => exact .inl rfl
  | spoilt => exact absurd rfl h3
  | mapped => exact .inr rfl
theorem format_again {base t : Nat} {w : World} {m : Mg} {c : CS} {P : List (List (List Nat))} (h : Ms base t w m c P) (hf : Fine c) (ht : t < 2147483647) (hg : Hd.Glb w) (hgb : 1 < base) :
    Calls Tryz.prog 7 #[.pointer (some ⟨c.p, 0, none⟩)] w fun e w' => ∃ m' c' P', e = .returned (.tuple #[.pointer (some ⟨m'.p, 0, none⟩), .int .i64 0]) ∧ Ms base (t + 1) w' m' c' P' ∧ (∀ l, cont m'.bl P' l = none) ∧ Gm c c' ∧ Kept (fun k => base ≤ k) w w' ∧ (∀ (i : Nat) x, m'.bl[i]? = some x → x.st = 2) := by
  have hgeo := h.rp.rb.geo
  have hscan := h.rp.scan h.rt
  have key : ∀ m0 : Mg, m0.bl = scanV c.vw → ∃ m' c' P', clearM (amongN [3] 0 m0.bl ++ amongN [2, 4] 0 m0.bl) m0 c = (0, m', c') ∧ ClearV (amongN [3] 0 m0.bl ++ amongN [2, 4] 0 m0.bl) m0 c ∧ RB m'.bl c' P' ∧ Gm c c' ∧ c'.fs = [] ∧ (m'.p = m0.p ∧ m'.bb = m0.bb ∧ m'.seq = m0.seq ∧ m'.lost = m0.lost) ∧ ∀ j, j < c.gb → ∃ o, m.bl[j]? = some o ∧ m'.bl[j]? = some ⟨2, o.cnt + 1, 0, 0, 0, false⟩ ∧ P'[j]? = some [] := by
    intro m0 hm
    rw [hscan] at hm
    have e1 : amongN [3] 0 m0.bl = [] := amongN_none _ _ _ (fun x hx => by
      rw [hm] at hx
      obtain ⟨i, hi⟩ := List.getElem?_of_mem hx
      rcases fine_st h.rp hf hi with e | e <;> simp [e])
    have e2 : amongN [2, 4] 0 m0.bl = List.range' 0 c.gb := by
      rw [amongN_whole _ _ _ (fun x hx => by
        rw [hm] at hx
        obtain ⟨i, hi⟩ := List.getElem?_of_mem hx
        rcases fine_st h.rp hf hi with e | e <;> simp [e]), hm, h.rp.rb.lb]
    rw [e1, e2, List.nil_append]
    obtain ⟨m', c', P', g1, g2, g3, g4, g5, g6, g7, g8⟩ := clear_ok (List.range' 0 c.gb) m0 c P (by rw [hm]; exact h.rp.rb) hf.1 List.nodup_range' (fun n hn => by
      have hn' : n < c.gb := by simpa using hn
      obtain ⟨o, ho⟩ : ∃ o, m.bl[n]? = some o := ⟨_, List.getElem?_eq_getElem (by rw [h.rp.rb.lb]; exact hn')⟩
      refine ⟨o, by rw [hm]; exact ho, ?_, ?_⟩
      · rcases fine_st h.rp hf ho with e | e <;> rw [e] <;> decide
      · have := h.rp.cb n o ho; omega)
    refine ⟨m', c', P', g1, g2, g3, g4, g5, g6, fun j hj => ?_⟩
    obtain ⟨o, ho⟩ : ∃ o, m.bl[j]? = some o := ⟨_, List.getElem?_eq_getElem (by rw [h.rp.rb.lb]; exact hj)⟩
    exact ⟨o, ho, g8 j (by simpa using hj) o (by rw [hm]; exact ho)⟩
  refine (format_any h.ml.chip h.rp.rb.on hg hgb h.spent (fun i o ho h3 => ?_) (fun m0 hm => (key m0 hm).choose_spec.choose_spec.choose_spec.2.1)).mono ?_
  · rw [hscan] at ho
    rcases fine_st h.rp hf ho with e | e <;> rw [e] at h3 <;> exact absurd h3 (by decide)
  · rintro e w' ⟨m0, hbl, hsq, hlo, rfl, hml, hp, hft, hk⟩
    obtain ⟨m', c', P', g1, g2, g3, g4, g5, g6, g7⟩ := key m0 hbl
    rw [g1] at hml hp hft
    have hst : ∀ (i : Nat) x, m'.bl[i]? = some x → x.st = 2 ∧ x.cnt ≤ (t : Int) + 1 := fun i x hx => by
      have hi : i < c.gb := by rw [← g4.gb, ← g3.lb]; exact (List.getElem?_eq_some_iff.1 hx).1
      obtain ⟨o, ho, hm', _⟩ := g7 i hi
      rw [hm'] at hx
      cases hx
      exact ⟨rfl, by have := h.rp.cb i o ho; show o.cnt + 1 ≤ _; omega⟩
    have hseq : m'.seq ≤ t + 64 := by
      have h1 := h.rp.bud
      have h2 : (m0.seq : Int) ≤ m.seq := by
        rw [hsq, hscan]
        exact maxS_le (by omega) (fun x hx => by
          obtain ⟨i, hi⟩ := List.getElem?_of_mem hx
          rcases fine_st h.rp hf hi with e | e
          · have hil : i < c.gb := by rw [← h.rp.rb.lb]; exact (List.getElem?_eq_some_iff.1 hi).1
            obtain ⟨b, y, p, hb, hy, _, hkk, _⟩ := h.rp.rb.at hil
            rw [hi] at hy
            cases hy
            obtain ⟨k, rfl, _⟩ := bok_free hkk e
            show (0 : Int) ≤ _; omega
          · exact h.rp.sq i x hi e)
      rw [g6.2.2.1]
      omega
    refine ⟨m', c', P', by rw [g6.1], ⟨hml, ⟨g3, ?_, ?_, ?_, ?_, ?_, ?_, by rw [g5]; simp; omega, g6.2.2.2.trans hlo, by rw [g4.wrong]; exact h.rp.wrong⟩, ?_, h.gb, by rw [g4.gb, g4.gp, g4.gz, g4.gr]; exact h.rt⟩, ?_, g4, hk, fun i x hx => (hst i x hx).1⟩
    · intro i b x p _ _ hx _ h4
      rw [(hst i x hx).1] at h4
      exact absurd h4 (by decide)
    · intro i j x y hx _ h4
      rw [(hst i x hx).1] at h4
      exact absurd h4 (by decide)
    · intro i x hx
      rw [(hst i x hx).1]
      decide
    · intro i x hx h4
      rw [(hst i x hx).1] at h4
      exact absurd h4 (by decide)
    · intro i x hx h4
      rw [(hst i x hx).1] at h4
      exact absurd h4 (by decide)
    · intro i x hx
      have := (hst i x hx).2
      omega
    · exact h.ty.keep hk (by have := h.gb; omega)
    · intro l
      exact cont_none fun i x hx h4 => by
        rw [(hst i x hx).1] at h4
        exact absurd h4 (by decide)
end Go.Proofs.YtccfalafphjkpaaGreatDoor
namespace Go.Proofs.YtccfalafphjkpaaGreatDoor
open Go.RowKit
set_option maxRecDepth 10000

theorem Al.up {base t t' : Nat} {w0 : World} {gz : Nat} {w : World} {m : Mg} {c : CS} {P : List (List (List Nat))} {f : Int → Option (List (List Nat))} (h : Al base t w0 gz w m c P f) (ht : t ≤ t') : Al base t' w0 gz w m c P f :=
  ⟨⟨h.ms.ml, h.ms.rp.mono ht, h.ms.ty, h.ms.gb, h.ms.rt⟩, h.gl, h.fn, h.kp, h.hb, h.z⟩
theorem PArg.pdt {base : Nat} {X W : World} {m : Mg} {c : CS} {a : Option Addr} {len cap : Nat} {L : List PgD} (h : PArg X a len cap L) (hb : X.heap.size ≤ base) (hk : Kept (fun k => base ≤ k) X W) (hM : MLies base W m c) : PDt (MFoot m c) W a (L.map PgD.d) := by
  rcases h.row with e | ⟨b, off, e, hc⟩
  · exact .inl (by rw [e]; rfl)
  · by_cases hL : L = []
    · exact .inl (by rw [hL]; rfl)
    · have hlt : b < X.heap.size := by
        have h0 : 0 < L.length := List.length_pos_iff.2 hL
        exact World.block_lt_of_cell? X _ (hc 0 L[0] (List.getElem?_eq_getElem h0))
      refine .inr ⟨b, off, e, fun hf => (by have := hM.foot_ge _ hf; omega), fun i d hd => ?_⟩
      rw [List.getElem?_map] at hd
      obtain ⟨o, ho, rfl⟩ := Option.map_eq_some_iff.1 hd
      have hB := h.each o (List.mem_of_getElem? ho)
      refine ⟨o.a, o.c, ?_, dt_arg hB.lt hB.row hb hk hM⟩
      rw [← hB.len_eq]
      exact cell_kept hk (show ¬ base ≤ b by omega) (hc i o ho)
/-- A right manager behind t steps of a script. -/
def Scr (X : World) (c0 : CS) (p t : Nat) (W : World) : Prop := ∃ m c P f, Al X.heap.size t X c0.gz W m c P f ∧ Gm c0 c ∧ m.p = p
theorem Scr.later {X : World} {c0 : CS} {p t : Nat} {W W' : World} (h : Scr X c0 p t W) (hb : Below W.heap.size W W') : Scr X c0 p t W' := by
  obtain ⟨m, c, P, f, h1, h2, h3⟩ := h
  exact ⟨m, c, P, f, h1.later hb, h2, h3⟩
theorem Scr.up {X : World} {c0 : CS} {p t t' : Nat} {W : World} (h : Scr X c0 p t W) (ht : t ≤ t') : Scr X c0 p t' W := by
  obtain ⟨m, c, P, f, h1, h2, h3⟩ := h
  exact ⟨m, c, P, f, h1.up ht, h2, h3⟩
theorem Scr.below {X : World} {c0 : CS} {p t : Nat} {W : World} (h : Scr X c0 p t W) : Below X.heap.size X W := by
  obtain ⟨m, c, P, f, h1, h2, h3⟩ := h
  exact h1.below (Nat.le_refl _)
theorem Al.hasB {base t : Nat} {w0 : World} {gz : Nat} {w : World} {m : Mg} {c : CS} {P : List (List (List Nat))} {f : Int → Option (List (List Nat))} (h : Al base t w0 gz w m c P f) (leb : Int) : hasB c leb = decide (0 ≤ leb ∧ leb + c.gr + 2 < c.gb) := by
  unfold Proofs.YtccfalafphjkpaaGreatDoor.hasB
  rw [h.ms.lebs]
  by_cases h0 : 0 ≤ leb
  · by_cases h1 : leb + c.gr + 2 < c.gb
    · rw [decide_eq_true h0, decide_eq_true (by omega : leb < (c.gb : Int) - c.gr - 2), decide_eq_true ⟨h0, h1⟩]; rfl
    · rw [decide_eq_true h0, decide_eq_false (by omega : ¬ leb < (c.gb : Int) - c.gr - 2), decide_eq_false (fun h => h1 h.2)]; rfl
  · simp [h0]
theorem sc_done {X W w' : World} {c0 c : CS} {p t t' : Nat} {m : Mg} {P : List (List (List Nat))} {f g : Int → Option (List (List Nat))} (hA : Al X.heap.size t X c0.gz W m c P f) (hg : Gm c0 c) (hp : m.p = p) (hd : Done X.heap.size t' W m c g w') : Scr X c0 p t' w' := by
  obtain ⟨m', c', P', q1, q2, q3, q4, q5⟩ := hA.done hd
  exact ⟨m', c', P', _, q1, hg.trans q2, q3.trans hp⟩
theorem sc_write {X : World} {c0 : CS} {p t : Nat} {W : World} (h : Scr X c0 p t W) (leb : Int) (a : Option Addr) (n cap : Nat) (l : List Nat) (hB : BArg X a n cap l) (ht : t < 2000000000) :
    Calls Tryz.prog 23 #[.pointer (some ⟨p, 0, none⟩), .int .i64 leb, .slice a n cap] W fun e w' => ∃ r, e = .returned (.int .i64 r) ∧ Scr X c0 p (t + 1) w' := by
  have h' := h
  obtain ⟨m, c, P, f, hA, hg, rfl⟩ := h
  have hh := hA.hasB leb
  by_cases hr : 0 ≤ leb ∧ leb + c.gr + 2 < c.gb
  · rw [decide_eq_true hr] at hh
    by_cases hz : c.gz < n
    · refine (mwrite_long hA.ms.ml leb a n cap hh hz).mono ?_
      rintro e w' ⟨rfl, hb⟩
      exact ⟨_, rfl, (h'.later hb).up (by omega)⟩
    · obtain ⟨k, rfl⟩ : ∃ k : Nat, leb = k := ⟨leb.toNat, by omega⟩
      have hd := dt_arg hB.lt hB.row (Nat.le_refl _) hA.kp hA.ms.ml
      have hn := hB.len_eq
      have hgeo := hA.ms.rp.rb.geo
      have hpl := hA.ms.page_le (k : Int)
      by_cases hl : 2 + ((cont m.bl P (k : Int)).getD []).length < c.gp
      · have := write_go hA.ms k cap a l hd hr.2 (by omega) hl (by omega)
        rw [← hn] at this
        refine this.mono ?_
        rintro e w' ⟨rfl, hdn⟩
        exact ⟨_, rfl, sc_done hA hg rfl hdn⟩
      · cases hc : cont m.bl P (k : Int) with
        | none => rw [hc] at hl; simp at hl; omega
        | some pp =>
          rw [hc] at hl hpl
          simp only [Option.getD_some] at hl hpl
          have := write_full hA.ms k cap a l hr.2 (by omega) pp hc (by omega)
          rw [← hn] at this
          refine this.mono ?_
          rintro e w' ⟨rfl, hdn⟩
          exact ⟨_, rfl, (sc_done hA hg rfl hdn).up (by omega)⟩
  · rw [decide_eq_false hr] at hh
    refine (mwrite_no hA.ms.ml leb a n cap hh).mono ?_
    rintro e w' ⟨rfl, hb⟩
    exact ⟨_, rfl, (h'.later hb).up (by omega)⟩
theorem sc_unmap {X : World} {c0 : CS} {p t : Nat} {W : World} (h : Scr X c0 p t W) (leb : Int) (ht : t < 2000000000) :
    Calls Tryz.prog 24 #[.pointer (some ⟨p, 0, none⟩), .int .i64 leb] W fun e w' => ∃ r, e = .returned (.int .i64 r) ∧ Scr X c0 p (t + 1) w' := by
  have h' := h
  obtain ⟨m, c, P, f, hA, hg, rfl⟩ := h
  have hh := hA.hasB leb
  by_cases hr : 0 ≤ leb ∧ leb + c.gr + 2 < c.gb
  · refine (unmap_go hA.ms leb hr.1 hr.2 (by omega)).mono ?_
    rintro e w' ⟨rfl, hdn⟩
    exact ⟨_, rfl, sc_done hA hg rfl hdn⟩
  · rw [decide_eq_false hr] at hh
    refine (munmap_no hA.ms.ml leb hh).mono ?_
    rintro e w' ⟨rfl, hb⟩
    exact ⟨_, rfl, (h'.later hb).up (by omega)⟩
theorem sc_change {X : World} {c0 : CS} {p t : Nat} {W : World} (h : Scr X c0 p t W) (leb : Int) (a : Option Addr) (n cap : Nat) (L : List PgD) (hB : PArg X a n cap L) (ht : t < 2000000000) :
    Calls Tryz.prog 10 #[.pointer (some ⟨p, 0, none⟩), .int .i64 leb, .slice a n cap] W fun e w' => ∃ r, e = .returned (.int .i64 r) ∧ Scr X c0 p (t + 1) w' := by
  have h' := h
  obtain ⟨m, c, P, f, hA, hg, rfl⟩ := h
  have hh := hA.hasB leb
  have hgeo := hA.ms.rp.rb.geo
  by_cases hr : 0 ≤ leb ∧ leb + c.gr + 2 < c.gb
  · rw [decide_eq_true hr] at hh
    have hpd := hB.pdt (Nat.le_refl _) hA.kp hA.ms.ml
    have hn : n = (L.map PgD.d).length := by rw [List.length_map]; exact hB.len_eq
    by_cases hfit : (L.map PgD.d).length + 2 ≤ c.gp ∧ ∀ d ∈ L.map PgD.d, d.length ≤ c.gz
    · obtain ⟨k, rfl⟩ : ∃ k : Nat, leb = k := ⟨leb.toNat, by omega⟩
      have := change_go hA.ms k cap a (L.map PgD.d) hpd hr.2 hfit.2 (by omega) (by omega)
      rw [← hn] at this
      refine this.mono ?_
      rintro e w' ⟨rfl, hdn⟩
      exact ⟨_, rfl, sc_done hA hg rfl hdn⟩
    · refine (mchange_unfit hA.ms.ml leb a n cap hh (fun Y hb => ?_)).mono ?_
      · have := mfit_no (hA.ms.ml.later hb) a cap (L.map PgD.d) (hpd.kept (.of_below hb)) (by rw [← hn]; have := hB.le; have := hB.max; unfold maxLen at this; omega) (by omega) hfit
        rw [← hn] at this
        exact this
      · rintro e w' ⟨rfl, hb⟩
        exact ⟨_, rfl, (h'.later hb).up (by omega)⟩
  · rw [decide_eq_false hr] at hh
    refine (mchange_no hA.ms.ml leb a n cap hh).mono ?_
    rintro e w' ⟨rfl, hb⟩
    exact ⟨_, rfl, (h'.later hb).up (by omega)⟩
theorem sc_wear {X : World} {c0 : CS} {p t : Nat} {W : World} (h : Scr X c0 p t W) (ht : t < 2000000000) :
    Calls Tryz.prog 44 #[.pointer (some ⟨p, 0, none⟩)] W fun e w' => ∃ b r, e = .returned (.tuple #[.bool b, .int .i64 r]) ∧ Scr X c0 p (t + 1) w' := by
  obtain ⟨m, c, P, f, hA, hg, rfl⟩ := h
  refine (wear_go hA.ms (by omega)).mono ?_
  rintro e w' ⟨b, rfl, hdn⟩
  exact ⟨b, _, rfl, sc_done hA hg rfl hdn⟩
end Go.Proofs.YtccfalafphjkpaaGreatDoor
namespace Go.Proofs.YtccfalafphjkpaaGreatDoor
open Go.RowKit
set_option maxRecDepth 10000

set_option maxHeartbeats 2000000 in
theorem does_1 {X : World} {c0 : CS} {p t : Nat} {W : World} (h : Scr X c0 p t W) (leb : Int) (da : Option Addr) (dl dc : Nat) (pa : Option Addr) (pl pc : Nat) (data : List Nat) (hB : BArg X da dl dc data) (ht : t < 2000000000) :
    Calls Tryz.prog 16 #[.pointer (some ⟨p, 0, none⟩), .agg #[.int .i64 1, .int .i64 leb, .slice da dl dc, .slice pa pl pc]] W fun e w' => ∃ r, e = .returned (.tuple #[.pointer (some ⟨p, 0, none⟩), .int .i64 r]) ∧ Scr X c0 p (t + 1) w' := by
  obtain ⟨W1, hW1⟩ : ∃ W1, W1 = W.alloc (.cells #[.int .i64 1, .int .i64 leb, .slice da dl dc, .slice pa pl pc] 43) := ⟨_, rfl⟩
  have hr : Row W1 W.heap.size [.int .i64 1, .int .i64 leb, .slice da dl dc, .slice pa pl pc] 43 := by rw [hW1]; exact Row.new W _ _
  have hb : Below W.heap.size W W1 := by rw [hW1]; exact below_new W _
  have y0 : W1.cell? ⟨W.heap.size, 0, none⟩ = some (.int .i64 1) := hr.cell (i := 0) rfl
  have y1 : W1.cell? ⟨W.heap.size, 1, none⟩ = some (.int .i64 leb) := hr.cell (i := 1) rfl
  have y2 : W1.cell? ⟨W.heap.size, 2, none⟩ = some (.slice da dl dc) := hr.cell (i := 2) rfl
  have y3 : W1.cell? ⟨W.heap.size, 3, none⟩ = some (.slice pa pl pc) := hr.cell (i := 3) rfl
  have kC := sc_write (h.later hb) leb da dl dc data hB ht
  clear h ht hr hb hB
  go_enter Tryz.func16, Tryz.ntmps16
  go_wp2_with fail
  rw [← hW1]
  clear hW1
  go_wp2_with (go_at_call 23; refine kC.mono ?_; rintro e w2 ⟨r, rfl, hs⟩; have HS : Hid (Scr X c0 p (t + 1) w2) := hs; clear hs)
  refine bodyPost_ret (v := .tuple #[.pointer (some ⟨p, 0, none⟩), .int .i64 r]) ?_ rfl ⟨r, rfl, HS.out⟩
  simp [results, Tryz.f16, go_sem]
set_option maxHeartbeats 2000000 in
theorem does_2 {X : World} {c0 : CS} {p t : Nat} {W : World} (h : Scr X c0 p t W) (leb : Int) (da : Option Addr) (dl dc : Nat) (pa : Option Addr) (pl pc : Nat) (ht : t < 2000000000) :
    Calls Tryz.prog 16 #[.pointer (some ⟨p, 0, none⟩), .agg #[.int .i64 2, .int .i64 leb, .slice da dl dc, .slice pa pl pc]] W fun e w' => ∃ r, e = .returned (.tuple #[.pointer (some ⟨p, 0, none⟩), .int .i64 r]) ∧ Scr X c0 p (t + 1) w' := by
  obtain ⟨W1, hW1⟩ : ∃ W1, W1 = W.alloc (.cells #[.int .i64 2, .int .i64 leb, .slice da dl dc, .slice pa pl pc] 43) := ⟨_, rfl⟩
  have hr : Row W1 W.heap.size [.int .i64 2, .int .i64 leb, .slice da dl dc, .slice pa pl pc] 43 := by rw [hW1]; exact Row.new W _ _
  have hb : Below W.heap.size W W1 := by rw [hW1]; exact below_new W _
  have y0 : W1.cell? ⟨W.heap.size, 0, none⟩ = some (.int .i64 2) := hr.cell (i := 0) rfl
  have y1 : W1.cell? ⟨W.heap.size, 1, none⟩ = some (.int .i64 leb) := hr.cell (i := 1) rfl
  have y2 : W1.cell? ⟨W.heap.size, 2, none⟩ = some (.slice da dl dc) := hr.cell (i := 2) rfl
  have y3 : W1.cell? ⟨W.heap.size, 3, none⟩ = some (.slice pa pl pc) := hr.cell (i := 3) rfl
  have kC := sc_unmap (h.later hb) leb ht
  clear h ht hr hb
  go_enter Tryz.func16, Tryz.ntmps16
  go_wp2_with fail
  rw [← hW1]
  clear hW1
  go_wp2_with (go_at_call 24; refine kC.mono ?_; rintro e w2 ⟨r, rfl, hs⟩; have HS : Hid (Scr X c0 p (t + 1) w2) := hs; clear hs)
  refine bodyPost_ret (v := .tuple #[.pointer (some ⟨p, 0, none⟩), .int .i64 r]) ?_ rfl ⟨r, rfl, HS.out⟩
  simp [results, Tryz.f16, go_sem]
set_option maxHeartbeats 2000000 in
theorem does_3 {X : World} {c0 : CS} {p t : Nat} {W : World} (h : Scr X c0 p t W) (leb : Int) (da : Option Addr) (dl dc : Nat) (pa : Option Addr) (pl pc : Nat) (pages : List PgD) (hP : PArg X pa pl pc pages) (ht : t < 2000000000) :
    Calls Tryz.prog 16 #[.pointer (some ⟨p, 0, none⟩), .agg #[.int .i64 3, .int .i64 leb, .slice da dl dc, .slice pa pl pc]] W fun e w' => ∃ r, e = .returned (.tuple #[.pointer (some ⟨p, 0, none⟩), .int .i64 r]) ∧ Scr X c0 p (t + 1) w' := by
  obtain ⟨W1, hW1⟩ : ∃ W1, W1 = W.alloc (.cells #[.int .i64 3, .int .i64 leb, .slice da dl dc, .slice pa pl pc] 43) := ⟨_, rfl⟩
  have hr : Row W1 W.heap.size [.int .i64 3, .int .i64 leb, .slice da dl dc, .slice pa pl pc] 43 := by rw [hW1]; exact Row.new W _ _
  have hb : Below W.heap.size W W1 := by rw [hW1]; exact below_new W _
  have y0 : W1.cell? ⟨W.heap.size, 0, none⟩ = some (.int .i64 3) := hr.cell (i := 0) rfl
  have y1 : W1.cell? ⟨W.heap.size, 1, none⟩ = some (.int .i64 leb) := hr.cell (i := 1) rfl
  have y2 : W1.cell? ⟨W.heap.size, 2, none⟩ = some (.slice da dl dc) := hr.cell (i := 2) rfl
  have y3 : W1.cell? ⟨W.heap.size, 3, none⟩ = some (.slice pa pl pc) := hr.cell (i := 3) rfl
  have kC := sc_change (h.later hb) leb pa pl pc pages hP ht
  clear h ht hr hb hP
  go_enter Tryz.func16, Tryz.ntmps16
  go_wp2_with fail
  rw [← hW1]
  clear hW1
  go_wp2_with (go_at_call 10; refine kC.mono ?_; rintro e w2 ⟨r, rfl, hs⟩; have HS : Hid (Scr X c0 p (t + 1) w2) := hs; clear hs)
  refine bodyPost_ret (v := .tuple #[.pointer (some ⟨p, 0, none⟩), .int .i64 r]) ?_ rfl ⟨r, rfl, HS.out⟩
  simp [results, Tryz.f16, go_sem]
set_option maxHeartbeats 2000000 in
theorem does_4 {X : World} {c0 : CS} {p t : Nat} {W : World} (h : Scr X c0 p t W) (leb : Int) (da : Option Addr) (dl dc : Nat) (pa : Option Addr) (pl pc : Nat) (ht : t < 2000000000) :
    Calls Tryz.prog 16 #[.pointer (some ⟨p, 0, none⟩), .agg #[.int .i64 4, .int .i64 leb, .slice da dl dc, .slice pa pl pc]] W fun e w' => ∃ r, e = .returned (.tuple #[.pointer (some ⟨p, 0, none⟩), .int .i64 r]) ∧ Scr X c0 p (t + 1) w' := by
  obtain ⟨W1, hW1⟩ : ∃ W1, W1 = W.alloc (.cells #[.int .i64 4, .int .i64 leb, .slice da dl dc, .slice pa pl pc] 43) := ⟨_, rfl⟩
  have hr : Row W1 W.heap.size [.int .i64 4, .int .i64 leb, .slice da dl dc, .slice pa pl pc] 43 := by rw [hW1]; exact Row.new W _ _
  have hb : Below W.heap.size W W1 := by rw [hW1]; exact below_new W _
  have y0 : W1.cell? ⟨W.heap.size, 0, none⟩ = some (.int .i64 4) := hr.cell (i := 0) rfl
  have y1 : W1.cell? ⟨W.heap.size, 1, none⟩ = some (.int .i64 leb) := hr.cell (i := 1) rfl
  have y2 : W1.cell? ⟨W.heap.size, 2, none⟩ = some (.slice da dl dc) := hr.cell (i := 2) rfl
  have y3 : W1.cell? ⟨W.heap.size, 3, none⟩ = some (.slice pa pl pc) := hr.cell (i := 3) rfl
  have kC := sc_wear (h.later hb) ht
  clear h ht hr hb
  go_enter Tryz.func16, Tryz.ntmps16
  go_wp2_with fail
  rw [← hW1]
  clear hW1
  go_wp2_with (go_at_call 44; refine kC.mono ?_; rintro e w2 ⟨b, r, rfl, hs⟩; have HS : Hid (Scr X c0 p (t + 1) w2) := hs; clear hs)
  refine bodyPost_ret (v := .tuple #[.pointer (some ⟨p, 0, none⟩), .int .i64 r]) ?_ rfl ⟨r, rfl, HS.out⟩
  simp [results, Tryz.f16, go_sem]
set_option maxHeartbeats 2000000 in
theorem does_x {X : World} {c0 : CS} {p t : Nat} {W : World} (h : Scr X c0 p t W) (leb k : Int) (da : Option Addr) (dl dc : Nat) (pa : Option Addr) (pl pc : Nat) (n1 : ¬ k = 1) (n2 : ¬ k = 2) (n3 : ¬ k = 3) (n4 : ¬ k = 4) (n5 : ¬ k = 5) :
    Calls Tryz.prog 16 #[.pointer (some ⟨p, 0, none⟩), .agg #[.int .i64 k, .int .i64 leb, .slice da dl dc, .slice pa pl pc]] W fun e w' => ∃ r, e = .returned (.tuple #[.pointer (some ⟨p, 0, none⟩), .int .i64 r]) ∧ Scr X c0 p (t + 1) w' := by
  obtain ⟨W1, hW1⟩ : ∃ W1, W1 = W.alloc (.cells #[.int .i64 k, .int .i64 leb, .slice da dl dc, .slice pa pl pc] 43) := ⟨_, rfl⟩
  have hr : Row W1 W.heap.size [.int .i64 k, .int .i64 leb, .slice da dl dc, .slice pa pl pc] 43 := by rw [hW1]; exact Row.new W _ _
  have hb : Below W.heap.size W W1 := by rw [hW1]; exact below_new W _
  have y0 : W1.cell? ⟨W.heap.size, 0, none⟩ = some (.int .i64 k) := hr.cell (i := 0) rfl
  have y1 : W1.cell? ⟨W.heap.size, 1, none⟩ = some (.int .i64 leb) := hr.cell (i := 1) rfl
  have y2 : W1.cell? ⟨W.heap.size, 2, none⟩ = some (.slice da dl dc) := hr.cell (i := 2) rfl
  have y3 : W1.cell? ⟨W.heap.size, 3, none⟩ = some (.slice pa pl pc) := hr.cell (i := 3) rfl
  have HS : Hid (Scr X c0 p (t + 1) W1) := (h.later hb).up (by omega)
  clear h hr hb
  go_enter Tryz.func16, Tryz.ntmps16
  go_wp2_with fail
  rw [← hW1]
  clear hW1
  go_wp2
  refine bodyPost_ret (v := .tuple #[.pointer (some ⟨p, 0, none⟩), .int .i64 0]) ?_ rfl ⟨0, rfl, HS.out⟩
  simp [results, Tryz.f16, go_sem]
theorem does_go {X : World} {c0 : CS} {p t : Nat} {W : World} (h : Scr X c0 p t W) (o : EOp) (hB : BArg X o.da o.dl o.dc o.data) (hP : PArg X o.pa o.pl o.pc o.pages) (h5 : ¬ o.kind = 5) (ht : t < 2000000000) :
    Calls Tryz.prog 16 #[.pointer (some ⟨p, 0, none⟩), .agg #[.int .i64 o.kind, .int .i64 o.leb, .slice o.da o.dl o.dc, .slice o.pa o.pl o.pc]] W fun e w' => ∃ r, e = .returned (.tuple #[.pointer (some ⟨p, 0, none⟩), .int .i64 r]) ∧ Scr X c0 p (t + 1) w' := by
  by_cases h1 : o.kind = 1
  · rw [h1]; exact does_1 h o.leb o.da o.dl o.dc o.pa o.pl o.pc o.data hB ht
  · by_cases h2 : o.kind = 2
    · rw [h2]; exact does_2 h o.leb o.da o.dl o.dc o.pa o.pl o.pc ht
    · by_cases h3 : o.kind = 3
      · rw [h3]; exact does_3 h o.leb o.da o.dl o.dc o.pa o.pl o.pc o.pages hP ht
      · by_cases h4 : o.kind = 4
        · rw [h4]; exact does_4 h o.leb o.da o.dl o.dc o.pa o.pl o.pc ht
        · exact does_x h o.leb o.kind o.da o.dl o.dc o.pa o.pl o.pc h1 h2 h3 h4 h5
end Go.Proofs.YtccfalafphjkpaaGreatDoor
namespace Go.Proofs.YtccfalafphjkpaaGreatDoor
open Go.RowKit
set_option maxRecDepth 10000

theorem Fresh.fine {c : CS} (h : Fresh c) : Fine c := ⟨h.fs, fun b hb => (h.blk b hb).2.2.2⟩
/-- A manager behind Format. -/
def Fm (X : World) (c0 : CS) (p : Nat) (W : World) : Prop := ∃ t m c P, Al X.heap.size t X c0.gz W m c P (fun _ => none) ∧ Gm c0 c ∧ m.p = p ∧ ∀ (i : Nat) x, m.bl[i]? = some x → x.st = 2
theorem Fm.later {X : World} {c0 : CS} {p : Nat} {W W' : World} (h : Fm X c0 p W) (hb : Below W.heap.size W W') : Fm X c0 p W' := by
  obtain ⟨t, m, c, P, h1, h2, h3, h4⟩ := h
  exact ⟨t, m, c, P, h1.later hb, h2, h3, h4⟩
theorem Fm.below {X : World} {c0 : CS} {p : Nat} {W : World} (h : Fm X c0 p W) : Below X.heap.size X W := by
  obtain ⟨t, m, c, P, h1, h2, h3, h4⟩ := h
  exact h1.below (Nat.le_refl _)
theorem sc_format {X : World} {c0 : CS} {p t : Nat} {W : World} (h : Scr X c0 p t W) (hf : Fine c0) (ht : t < 2000000000) :
    Calls Tryz.prog 7 #[.pointer (some ⟨c0.p, 0, none⟩)] W fun e w' => ∃ p', e = .returned (.tuple #[.pointer (some ⟨p', 0, none⟩), .int .i64 0]) ∧ Fm X c0 p' w' := by
  obtain ⟨m, c, P, f, hA, hg, rfl⟩ := h
  have := format_again hA.ms (hg.fine hf) (by omega) hA.gl hA.hb
  rw [hg.p] at this
  refine this.mono ?_
  rintro e w' ⟨m', c', P', rfl, h1, h2, h3, h4, h5⟩
  refine ⟨m'.p, rfl, t + 1, m', c', P', ⟨h1, Glb.kp hA.gl h4 (by have := hA.hb; omega), h2, hA.kp.trans h4, hA.hb, by rw [h3.gz, hg.gz]⟩, hg.trans h3, rfl, h5⟩
theorem fm_lebs {X : World} {c0 : CS} {p : Nat} {W : World} (h : Fm X c0 p W) :
    Calls Tryz.prog 9 #[.pointer (some ⟨p, 0, none⟩)] W fun e w' => e = .returned (.int .i64 ((c0.gb : Int) - c0.gr - 2)) ∧ Below W.heap.size W w' := by
  obtain ⟨t, m, c, P, hA, h2, rfl, h4⟩ := h
  have := mlebs_any hA.ms.ml
  rw [hA.ms.lebs, h2.gb, h2.gr] at this
  exact this
theorem fm_used {X : World} {c0 : CS} {p : Nat} {W : World} (h : Fm X c0 p W) (j : Int) :
    Calls Tryz.prog 11 #[.pointer (some ⟨p, 0, none⟩), .int .i64 j] W fun e w' => e = .returned (.int .i64 0) ∧ Below W.heap.size W w' := by
  obtain ⟨t, m, c, P, hA, h2, rfl, h4⟩ := h
  have := used_go hA.ms j
  rw [hA.fn j] at this
  exact this
theorem fm_closed {X : World} {c0 : CS} {p : Nat} {W : World} (h : Fm X c0 p W) (j : Int) :
    Calls Tryz.prog 17 #[.pointer (some ⟨p, 0, none⟩), .int .i64 j] W fun e w' => e = .returned (.bool false) ∧ Below W.heap.size W w' := by
  obtain ⟨t, m, c, P, hA, h2, rfl, h4⟩ := h
  have := mclosed_any hA.ms.ml j
  rcases find_home hA.ms.rp j with ⟨_, _, hz⟩ | ⟨i, x, p', hf, hx, h4', he, hpi, hc, hh, hu, hcl⟩
  · rw [hz] at this; exact this
  · rw [h4 i x hx] at h4'
    exact absurd h4' (by decide)
/-- What a scan tells then. -/
structure Sn (X : World) (c0 : CS) (gb g : Nat) (er : Nat → Int) (W : World) : Prop where
  fm : ∃ p, Fm X c0 p W
  row : ∀ i, i < gb → W.cell? ⟨g, i * 6, none⟩ = some (.int .i64 2) ∧ W.cell? ⟨g, i * 6 + 1, none⟩ = some (.int .i64 (er i))
  ers : ∀ i, i < gb → ∀ V, Below W.heap.size W V → Calls Tryz.prog 19 #[.pointer (some ⟨c0.p, 0, none⟩), .int .i64 (i : Nat)] V fun e w' => e = .returned (.int .i64 (er i)) ∧ V = w'
theorem Sn.later {X : World} {c0 : CS} {gb g : Nat} {er : Nat → Int} {W W' : World} (h : Sn X c0 gb g er W) (hb : Below W.heap.size W W') : Sn X c0 gb g er W' := by
  refine ⟨?_, fun i hi => ?_, fun i hi V hV => h.ers i hi V (Below.after hb hV)⟩
  · obtain ⟨p, hp⟩ := h.fm
    exact ⟨p, hp.later hb⟩
  · obtain ⟨q0, q1⟩ := h.row i hi
    exact ⟨(hb.cell (p := ⟨g, i * 6, none⟩) (World.block_lt_of_cell? W _ q0)).trans q0, (hb.cell (p := ⟨g, i * 6 + 1, none⟩) (World.block_lt_of_cell? W _ q1)).trans q1⟩
theorem Sn.below {X : World} {c0 : CS} {gb g : Nat} {er : Nat → Int} {W : World} (h : Sn X c0 gb g er W) : Below X.heap.size X W := by
  obtain ⟨p, hp⟩ := h.fm
  exact hp.below
theorem fm_scan {X : World} {c0 : CS} {p gb : Nat} {W : World} (h : Fm X c0 p W) (hgb : c0.gb = gb) :
    Calls Tryz.prog 18 #[.pointer (some ⟨c0.p, 0, none⟩)] W fun e w' => ∃ g cap er, e = .returned (.tuple #[.slice (some ⟨g, 0, none⟩) gb cap, .int .i64 0]) ∧ Sn X c0 gb g er w' := by
  have h' := h
  obtain ⟨t, m, c, P, hA, h2, rfl, h4⟩ := h
  have hs := scan_on hA.ms.ml.chip c0.p (by rw [h2.p]) hA.ms.rp.rb.on hA.gl
  rw [hA.ms.rp.scan hA.ms.rt] at hs
  have hcg : c.gb = gb := by rw [h2.gb, hgb]
  rw [hcg] at hs
  refine hs.mono ?_
  rintro e w' ⟨g, cap, rfl, hO, hb⟩
  have at_ : ∀ i, i < gb → ∃ x b, m.bl[i]? = some x ∧ c.bks[i]? = some b ∧ x.st = 2 ∧ b.erases = x.cnt := fun i hi => by
    obtain ⟨b, x, q, hbk, hx, _, hk, _⟩ := hA.ms.rp.rb.at (i := i) (by omega)
    have h22 := h4 i x hx
    obtain ⟨k, e1, _, e3, _⟩ := bok_live hk (by rw [h22]; decide)
    exact ⟨x, b, hx, hbk, h22, by rw [e3, e1]⟩
  refine ⟨g, cap, fun i => ((m.bl[i]?).getD zeroB).cnt, rfl, ⟨m.p, h'.later hb⟩, fun i hi => ?_, fun i hi V hV => ?_⟩
  · obtain ⟨x, b, hx, _, h22, _⟩ := at_ i hi
    rcases hO.row with e | ⟨b', off, e, hc⟩
    · rw [e] at hx; simp at hx
    · cases e
      have := hc i x hx
      rw [Nat.zero_add] at this
      have e0 := this.c0
      rw [h22] at e0
      exact ⟨e0, by rw [hx]; exact this.c1⟩
  · obtain ⟨x, b, hx, hbk, h22, he⟩ := at_ i hi
    have := erases_any ((hA.ms.ml.later hb).later hV).chip (i : Nat)
    rw [at_nat, hbk, h2.p] at this
    simp only [he] at this
    rw [hx]
    exact this
end Go.Proofs.YtccfalafphjkpaaGreatDoor
