/-
  What ParseCount and ParseMapping of package header answer.
-/
import Derived.Test.YtdhbhjfpjmmonaaDoorHOpen
namespace Go.Proofs.YtdhbhjfpjmmonaaDoor
open Go.RowKit Go.Extern.Stop Go.Stop Go.Extern M
variable {L : Nat}

/-- All bytes of what is left are bytes. -/
def StB (st : Option (List Nat)) : Prop := ∀ l, st = some l → ∀ x ∈ l, x < 256
theorem StB.num {st : Option (List Nat)} (h : StB st) (k : Nat) : StB (numS k st) := by
  intro l hl x hx
  cases st with
  | none => cases hl
  | some t =>
    simp only [numS] at hl
    split at hl
    · cases hl
    · cases hl
      exact h t rfl x (List.mem_of_mem_drop hx)
theorem numV_lt {st : Option (List Nat)} (h : StB st) (k : Nat) : numV k st < 256 ^ k := by
  cases st with
  | none => exact Nat.pow_pos (by decide)
  | some t =>
    simp only [numV]
    split
    · exact Nat.pow_pos (by decide)
    · rename_i hk
      have := getL_lt (t.take k) (fun x hx => h t rfl x (List.mem_of_mem_take hx))
      rwa [List.length_take, Nat.min_eq_left (by omega)] at this
theorem openL_b {m : Nat} {l : List Nat} (h : ∀ x ∈ l, x < 256) : StB (openL m l) := by
  intro t ht
  by_cases hc : pageOk l.length ∧ isFrame l ∧ (restL l).all (· == 255) = true
  · rw [openL_yes hc.1 hc.2.1 hc.2.2] at ht
    unfold markS at ht
    split at ht
    · exact StB.num (st := some (bodyL l)) (fun l2 h2 => by cases h2; exact lt_of_sub h 6 _) 1 t ht
    · cases ht
  · rw [openL_no hc] at ht
    cases ht
theorem endS_cases (st : Option (List Nat)) : endS st = some [] ∨ endS st = none := by
  rcases st with _ | l
  · exact .inr rfl
  · cases l
    · exact .inl rfl
    · exact .inr rfl

open Classical in
/-- How often the block was erased, by the bytes l. -/
noncomputable def parseC (l : List Nat) : Option Nat := if endS (numS 4 (openL 69 l)) = some [] ∧ numV 4 (openL 69 l) ≤ 2147483647 then some (numV 4 (openL 69 l)) else none
def CPost (w : World) (r : Option Nat) (e : Ending) (w' : World) : Prop := e = .returned (.tuple #[.int .i64 (r.getD 0 : Nat), .bool r.isSome]) ∧ Below w.heap.size w w'

/-- What the last look at the reader sees. -/
theorem Opn.err {w wr : World} (h : Opn L w wr none) : ∃ t x, wr.cell? ⟨w.heap.size, 1, none⟩ = some (.iface t x) := by
  obtain ⟨a, n, c, t, x, hr, _⟩ := h.rd.bad
  exact ⟨t, x, hr.cell (i := 1) rfl⟩
theorem Opn.fine {w wr : World} {l : List Nat} (h : Opn L w wr (some l)) : wr.cell? ⟨w.heap.size, 1, none⟩ = some .nilIface := by
  obtain ⟨a, c, hr, _⟩ := h.rd.good
  exact hr.cell (i := 1) rfl
theorem noteS_true (st : Option (List Nat)) : noteS st true = none := rfl

set_option maxRecDepth 10000 in
set_option maxHeartbeats 4000000 in
theorem parseCount_any (a : Option Addr) (n cap : Nat) (l : List Nat) (w : World) (hg : Glb w) (hl : n = l.length) (hc : n ≤ cap) (hm : cap ≤ maxLen) (h256 : ∀ x ∈ l, x < 256) (hr : BRow w a l) :
    Calls Tryd.prog 13 #[.slice a n cap] w (CPost w (parseC l)) := by
  have cO := open_any a n cap 69 (by decide) l w hg hl hc hm h256 hr
  have hzl := numV_lt (openL_b (m := 69) h256) 4
  have HP : Hid (parseC l = if endS (numS 4 (openL 69 l)) = some [] ∧ numV 4 (openL 69 l) ≤ 2147483647 then some (numV 4 (openL 69 l)) else none) := by show _ = _; unfold parseC; congr
  obtain ⟨st, hst⟩ : ∃ st, st = openL 69 l := ⟨_, rfl⟩
  rw [← hst] at cO hzl HP
  clear hst hg hl hc hm h256 hr
  have cN := fun (L : Nat) (w1 : World) (h : Opn L w w1 st) => number_any w.heap.size 4 st w1 h.rd (by decide) (by decide)
  obtain ⟨z, hz⟩ : ∃ z, z = numV 4 st := ⟨_, rfl⟩
  obtain ⟨s1, hs1⟩ : ∃ s1, s1 = numS 4 st := ⟨_, rfl⟩
  rw [← hs1] at cN HP
  rw [← hz] at cN HP hzl
  clear hz hs1
  have cE := fun (L : Nat) (w1 : World) (h : Opn L w w1 s1) => end_any w.heap.size s1 w1 h.rd
  have hs2 := endS_cases s1
  obtain ⟨s2, hs2'⟩ : ∃ s2, s2 = endS s1 := ⟨_, rfl⟩
  rw [← hs2'] at cE HP hs2
  clear hs2'
  have hz2 : z < 4294967296 := hzl
  clear hzl
  by_cases hok : z ≤ 2147483647
  · have HOK : Hid (countOk z) := by show _ ∧ _; omega
    rcases hs2 with rfl | rfl
    · have hres : parseC l = some z := by rw [HP.out, if_pos ⟨rfl, hok⟩]
      rw [hres]
      clear hres HP hok
      go_enter Tryd.func13, Tryd.ntmps13
      go_wp2_with (first
        | (go_at_call 26; refine cO.mono ?_; rintro e w1 ⟨rfl, ho⟩; have HO1 : Hid (Opn _ _ _ _) := ho; clear ho cO)
        | (go_at_call 27; refine (cN _ _ HO1.out).mono ?_; rintro e w2 ⟨rfl, hp⟩; have HO2 : Hid (Opn _ _ _ _) := HO1.out.step hp; clear hp cN)
        | (go_at_call 28; refine (cE _ _ HO2.out).mono ?_; rintro e w3 ⟨rfl, hp⟩; have HO3 : Hid (Opn _ _ _ _) := HO2.out.step hp; clear hp cE)
        | (go_at_call 19; refine (count_ok _ _ HOK.out).mono ?_; rintro e w' ⟨rfl, rfl⟩)
        | (go_at_call 29; refine (note_nil _ _ [] _ HO3.out.rd).mono ?_; rintro e w' ⟨rfl, rfl⟩; have y1 := HO3.out.fine))
      go_ret2
      exact ⟨rfl, HO3.out.bel⟩
    · have hres : parseC l = none := by rw [HP.out, if_neg (fun h => by cases h.1)]
      rw [hres]
      clear hres HP hok
      go_enter Tryd.func13, Tryd.ntmps13
      go_wp2_with (first
        | (go_at_call 26; refine cO.mono ?_; rintro e w1 ⟨rfl, ho⟩; have HO1 : Hid (Opn _ _ _ _) := ho; clear ho cO)
        | (go_at_call 27; refine (cN _ _ HO1.out).mono ?_; rintro e w2 ⟨rfl, hp⟩; have HO2 : Hid (Opn _ _ _ _) := HO1.out.step hp; clear hp cN)
        | (go_at_call 28; refine (cE _ _ HO2.out).mono ?_; rintro e w3 ⟨rfl, hp⟩; have HO3 : Hid (Opn _ _ _ _) := HO2.out.step hp; clear hp cE)
        | (go_at_call 19; refine (count_ok _ _ HOK.out).mono ?_; rintro e w' ⟨rfl, rfl⟩)
        | (go_at_call 29; refine (note_bad _ _ _ (.inl rfl) _ HO3.out.rd).mono ?_; rintro e w' ⟨rfl, rfl⟩; obtain ⟨yt, yx, y1⟩ := HO3.out.err))
      go_ret2
      exact ⟨rfl, HO3.out.bel⟩
  · have HOK : Hid (¬ countOk z) := by show ¬ (_ ∧ _); omega
    have hres : parseC l = none := by rw [HP.out, if_neg (fun h => hok h.2)]
    rw [hres]
    clear hres HP hok hs2
    go_enter Tryd.func13, Tryd.ntmps13
    go_wp2_with (first
      | (go_at_call 26; refine cO.mono ?_; rintro e w1 ⟨rfl, ho⟩; have HO1 : Hid (Opn _ _ _ _) := ho; clear ho cO)
      | (go_at_call 27; refine (cN _ _ HO1.out).mono ?_; rintro e w2 ⟨rfl, hp⟩; have HO2 : Hid (Opn _ _ _ _) := HO1.out.step hp; clear hp cN)
      | (go_at_call 28; refine (cE _ _ HO2.out).mono ?_; rintro e w3 ⟨rfl, hp⟩; have HO3 : Hid (Opn _ _ _ _) := HO2.out.step hp; clear hp cE)
      | (go_at_call 19; refine (count_bad _ _ HOK.out).mono ?_; rintro e w4 ⟨b4, rfl, _, hb4⟩; have HO4 : Hid (Opn _ _ _ _) := HO3.out.later hb4; clear hb4)
      | (go_at_call 29; refine (note_any _ _ _ (.inr ⟨_, _, rfl⟩) _ _ HO4.out.rd).mono ?_; rintro e w5 ⟨rfl, hp⟩; have HO5 : Hid (Opn _ _ _ none) := HO4.out.step hp; clear hp; obtain ⟨yt, yx, y1⟩ := HO5.out.err))
    go_ret2
    exact ⟨rfl, HO5.out.bel⟩
end Go.Proofs.YtdhbhjfpjmmonaaDoor
