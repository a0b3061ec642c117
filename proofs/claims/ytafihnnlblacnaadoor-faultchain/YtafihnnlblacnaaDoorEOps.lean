/-
  Ops: what was done, from the outside in: as many as the chain has.
-/
import Derived.Test.YtafihnnlblacnaaDoorEAsW
import Derived.Test.YtafihnnlblacnaaDoorEStr
import Derived.Defers
import Derived.Recover
import Derived.OwnWalk
import Derived.Laws.Pointers
namespace Go.Proofs.YtafihnnlblacnaaDoor
open Go.RowKit Go.Extern.Stop Go.Stop Go.Extern

theorem catch_ops (w : World) : CallsD Tryd.prog 38 #[] .returning w fun e u' w' => e = .returned (.tuple #[]) ∧ u' = .returning ∧ w' = w := by
  refine callsD_of_wpS Tryd.func38 rfl fun c₀ cs hu => ?_
  cases c₀
  apply wpS_region
  simp_all [wpOpsS, go_sem, recoverD, Tryd.ntmps38, bodyPostS, results, Tryd.results38]

/-- What a round of Ops has found: the first of the program's own errors. -/
structure Step5 (wr W1 w3 : World) (b : Nat) (op what : ByteArray) (v2 : Value) (l2 : List ByteArray) (n2 : Nat) (l' : List ByteArray) (e : Option Int) (gk : Nat) : Prop where
  hl : l' = op :: l2
  hk : Kept (fun k => k = wr.heap.size) W1 w3
  hr : Row w3 wr.heap.size [.pointer (some ⟨b, 0, none⟩)] 46
  hb : Row w3 b [.string op, .string what, v2] 48
  hch : Ch w3 v2 l2 e n2
  hlt : n2 < gk
theorem Step5.q0 {wr W1 w3 : World} {b : Nat} {op what : ByteArray} {v2 : Value} {l2 : List ByteArray} {n2 : Nat} {l' : List ByteArray} {e : Option Int} {gk : Nat} (h : Step5 wr W1 w3 b op what v2 l2 n2 l' e gk) : w3.cell? ⟨wr.heap.size, 0, none⟩ = some (.pointer (some ⟨b, 0, none⟩)) := h.hr.cell (i := 0) rfl
theorem Step5.q1 {wr W1 w3 : World} {b : Nat} {op what : ByteArray} {v2 : Value} {l2 : List ByteArray} {n2 : Nat} {l' : List ByteArray} {e : Option Int} {gk : Nat} (h : Step5 wr W1 w3 b op what v2 l2 n2 l' e gk) : w3.cell? ⟨b, 0, none⟩ = some (.string op) := h.hb.cell (i := 0) rfl
theorem Step5.q2 {wr W1 w3 : World} {b : Nat} {op what : ByteArray} {v2 : Value} {l2 : List ByteArray} {n2 : Nat} {l' : List ByteArray} {e : Option Int} {gk : Nat} (h : Step5 wr W1 w3 b op what v2 l2 n2 l' e gk) : wr.heap.size < w3.heap.size := h.hr.lt
/-- What is so behind the append: what was found stays. -/
theorem Step5.grown {wr W1 w3 w5 : World} {b : Nat} {op what : ByteArray} {v2 : Value} {l2 : List ByteArray} {n2 : Nat} {l' : List ByteArray} {e : Option Int} {gk : Nat} (h : Step5 wr W1 w3 b op what v2 l2 n2 l' e gk) {o : Obj} {base n : Nat} {v : Value} {xs : List Value}
    (ho : (w3.alloc o).ownsRow base 9 1 v n xs) (hg : (w3.alloc o).grownBy w5 v.ownBlock) : Row w5 wr.heap.size [.pointer (some ⟨b, 0, none⟩)] 46 ∧ Row w5 b [.string op, .string what, v2] 48 ∧ Ch w5 v2 l2 e n2 := by
  have hk := Kept.grown hg
  refine ⟨(h.hr.alloc o).kept hk (fun e => (h.hr.alloc o).ne (owns_type ho e) (by decide) rfl), (h.hb.alloc o).kept hk (fun e => (h.hb.alloc o).ne (owns_type ho e) (by decide) rfl), ?_⟩
  exact (h.hch.later (below_new _ _)).kept hk (fun b cs r e => r.ne (owns_type ho e) (by decide) rfl) (fun b cs r e => r.ne (owns_type ho e) (by decide) rfl)

set_option maxHeartbeats 2000000 in
theorem ops_any (v : Value) (l : List ByteArray) (e : Option Int) (n : Nat) (w : World) (hg : Typed w) (hc : Ch w v l e n) (hl : l.length * 16 ≤ 140737488351232) :
    Calls Tryd.prog 23 #[v] w fun ev w' => (∃ a cap, ev = .returned (.slice a l.length cap)) ∧ Below w.heap.size w w' := by
  have HG : Hid (Typed w) := hg
  have HC : Hid (Ch w v l e n) := hc
  have HL : Hid (l.length * 16 ≤ 140737488351232) := hl
  have hpos := hg.pos
  clear hg hc hl
  go_enter_defers Tryd.func23, Tryd.ntmps23
  go_wp2
  go_loopg [0, 2] n (fun gm s0 s2 wr => ∃ v' l' done a m cap, s0 = v' ∧ s2 = .slice a m cap ∧ Hid (m = done.length ∧ l = done ++ l') ∧ Hid (wr.ownsRow w.heap.size 9 1 (.slice a m cap) m (done.map Value.string)) ∧ Hid (Ch wr v' l' e gm) ∧ Hid (Below w.heap.size w wr))
  case atStart => exact ⟨v, l, [], none, 0, 0, rfl, rfl, ⟨rfl, rfl⟩, World.ownsRow_nil _ _ _ _, HC, Below.refl _ _⟩
  case round =>
    obtain ⟨v', l', done, a, m, cap, rfl, rfl, HM, HO, HC', HB⟩ := hrel
    clear HC
    have hsz := HB.out.size
    have HT : Hid (Typed wr) := HG.out.later HB.out
    rcases HC'.out.shape with rfl | ⟨t, x, rfl⟩
    · have hl : l' = [] := by cases HC'.out; rfl
      subst hl
      have cN : ∀ t w, _ := as_nil
      go_wp2_with (go_at_call 31; refine (cN _ _).mono ?_; rintro ev w3 ⟨rfl, rfl⟩)
      refine leaves_cons (f := 38) (args := #[]) (by simp) (by simp [go_sem]) ?_
      refine (catch_ops _).mono ?_
      rintro e u' w'' ⟨rfl, rfl, rfl⟩
      refine ⟨_, results_tmp rfl _ _ _, ⟨a, cap, ?_⟩, HB.out.alloc hsz _⟩
      obtain ⟨h1, h2⟩ := HM.out
      rw [h2, List.append_nil, ← h1]
      rfl
    · have b1 : Below wr.heap.size wr (wr.alloc (.cells #[.pointer none] 46)) := below_new _ _
      have cA := As_F t x l' e gk wr.heap.size (.pointer none) _ (HT.out.later b1) (HC'.out.later b1) (Row.new wr [_] _)
      obtain ⟨W1, hW1⟩ : ∃ W1, W1 = wr.alloc (.cells #[.pointer none] 46) := ⟨_, rfl⟩
      have HB1 : Hid (Below w.heap.size w W1) := by rw [hW1]; exact HB.out.alloc hsz _
      have HO1 : Hid (W1.ownsRow w.heap.size 9 1 (.slice a m cap) m (done.map Value.string)) := by rw [hW1]; exact HO.out.alloc _
      have HS1 : Hid (W1.heap.size = wr.heap.size + 1) := by rw [hW1]; show _ = _; simp
      have HOB : Hid (∀ k, (Value.slice a m cap).ownBlock = some k → ¬ (k = wr.heap.size)) := fun k hk => by have := (HO.out.lt k hk).2; omega
      rw [← hW1] at cA
      clear b1 HC'
      subst hW1
      cases l' with
      | nil =>
        have cA2 : Calls Tryd.prog 31 #[.iface t x, .iface 64 (.pointer (some ⟨wr.heap.size, 0, none⟩))] (wr.alloc (.cells #[.pointer none] 46)) fun ev w' =>
            ev = .returned (.bool false) ∧ Hid (Kept (fun k => k = wr.heap.size) (wr.alloc (.cells #[.pointer none] 46)) w') := by
          refine cA.mono ?_
          rintro ev w' (⟨h1, h2, h3, h4⟩ | ⟨b, op, what, v2, l2, n2, h1, h2, h3⟩)
          · exact ⟨h1, h3⟩
          · cases h2
        clear cA
        go_wp2_with (go_at_call 31; refine cA2.mono ?_; rintro ev w3 ⟨rfl, hk⟩)
        refine leaves_cons (f := 38) (args := #[]) (by simp) (by simp [go_sem]) ?_
        refine (catch_ops _).mono ?_
        rintro e u' w'' ⟨rfl, rfl, rfl⟩
        refine ⟨_, results_tmp rfl _ _ _, ⟨a, cap, ?_⟩, HB1.out.trans (hk.out.below (by simp; omega) (fun k h => by rw [h]; exact hsz))⟩
        obtain ⟨h1, h2⟩ := HM.out
        rw [h2, List.append_nil, ← h1]
        rfl
      | cons op l2 =>
        have cA2 : Calls Tryd.prog 31 #[.iface t x, .iface 64 (.pointer (some ⟨wr.heap.size, 0, none⟩))] (wr.alloc (.cells #[.pointer none] 46)) fun ev w' =>
            ev = .returned (.bool true) ∧ ∃ b what v2 n2, Step5 wr (wr.alloc (.cells #[.pointer none] 46)) w' b op what v2 l2 n2 (op :: l2) e gk := by
          refine cA.mono ?_
          rintro ev w' (⟨h1, h2, h3, h4⟩ | ⟨b, op', what, v2, l2', n2, h1, h2, h3, h4, h5, h6, h7⟩)
          · cases h2
          · cases h2
            exact ⟨h1, b, what, v2, n2, rfl, h3, h4, h5, h6, h7⟩
        clear cA
        have HML : Hid (m + 1 + l2.length = l.length ∧ (m + 1) * 16 ≤ 140737488351232) := by
          obtain ⟨h1, h2⟩ := HM.out
          have h3 := HL.out
          have h4 : l.length = m + (l2.length + 1) := by rw [h2, List.length_append, List.length_cons, ← h1]
          exact ⟨by omega, by omega⟩
        have hm63 : (m + 1) * 16 ≤ 140737488351232 := HML.out.2
        go_wp2_with (first
          | (go_at_call 31; refine cA2.mono ?_; rintro ev w3 ⟨rfl, b, what, v2, n2, hS⟩; have q0 := hS.q0; have q1 := hS.q1; have q2 := hS.q2; have HO3 : Hid (w3.ownsRow w.heap.size 9 1 (.slice a m cap) m (done.map Value.string)) := owns_kept HO1.out hS.hk HOB.out; have HB3 : Hid (Below w.heap.size w w3) := HB1.out.trans (hS.hk.below (by simp; omega) (fun k h => by rw [h]; exact hsz)); have hs3 := HB3.out.size)
          | (at_builtin; go_must (refine wpList_append_strs rfl (.tmp 13) (.tmp 18) rfl w.heap.size (.slice a m cap) m (done.map Value.string) rfl (HO3.out.alloc _) (some ⟨w3.heap.size, 0, none⟩) 1 1 [op] rfl rfl (one_row _ _) (fun h => by cases h) (by unfold maxLen; omega) (by omega) (by simp; omega) ?_); intro v' w5 hown' hgrow; obtain ⟨a5, cap5, rfl⟩ := owns_succ hown'; have hb5 := grown_own (HB3.out.alloc hs3 _) hgrow (by simp; omega) (HO3.out.alloc _); obtain ⟨g1, g2, g3⟩ := hS.grown (HO3.out.alloc _) hgrow; have p0 := g1.cell (i := 0) rfl; have p2 := g2.cell (i := 2) rfl; have HCN : Hid (Ch _ _ _ _ _) := g3; have HB5 : Hid (Below _ _ _) := hb5; have HO5 : Hid (World.ownsRow _ _ _ _ _ _ _) := hown'; clear g1 g2 g3 hb5 hown' hgrow q0 q1 q2 HO3))
        go_roundg n2
        case measure => exact hS.hlt
        case rel =>
          refine ⟨v2, l2, done ++ [op], a5, m + 1, cap5, rfl, rfl, ?_, by rw [List.map_append]; exact HO5.out, HCN.out, HB5.out⟩
          obtain ⟨h1, h2⟩ := HM.out
          exact ⟨by simp [h1], by simp [h2]⟩
end Go.Proofs.YtafihnnlblacnaaDoor
