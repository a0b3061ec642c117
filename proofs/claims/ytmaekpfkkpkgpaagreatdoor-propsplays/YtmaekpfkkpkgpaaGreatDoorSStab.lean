/-
  stableCmpFunc, as it runs.
-/
import Derived.Test.YtmaekpfkkpkgpaaGreatDoorSChunk
namespace Go.Proofs.YtmaekpfkkpkgpaaGreatDoor
open Go.RowKit
set_option maxRecDepth 10000

theorem dv {b s a : Nat} (h1 : b ∣ s) (h2 : b ∣ a) (h : a < s) : a + b ≤ s := by
  have h3 := Nat.dvd_sub h1 h2
  have := Nat.le_of_dvd (by omega) h3
  omega
/-- What an insertion sort of a run makes. -/
theorem ins_made {T : Int → Int → Prop} {V d Z : List Int} {n s l : Nat} (hd : d.length = n) (hdr : d.drop s = V.drop s) (hs : s + l ≤ n) (hz1 : Z.Perm (ck d s l)) (hz2 : Sd T Z) :
    (d.take s ++ Z ++ d.drop (s + l)).length = n ∧ Ch T V (d.take s ++ Z ++ d.drop (s + l)) s l ∧ (d.take s ++ Z ++ d.drop (s + l)).drop (s + l) = V.drop (s + l) ∧ (∀ s' l', s' + l' ≤ s → Ch T V d s' l' → Ch T V (d.take s ++ Z ++ d.drop (s + l)) s' l') := by
  have hzl : Z.length = l := by rw [hz1.length_eq, ck_len (by omega)]
  have hpl : (d.take s).length = s := by rw [List.length_take]; omega
  have hck : ck d s l = ck V s l := by unfold ck; rw [hdr]
  refine ⟨?_, ⟨?_, ?_⟩, ?_, ?_⟩
  · simp only [List.length_append, List.length_drop]
    omega
  · rw [ck_mid hpl.symm hzl.symm, ← hck]
    exact hz1
  · rw [ck_mid hpl.symm hzl.symm]
    exact hz2
  · rw [drop_right (by omega), hpl, hzl, Nat.sub_self, List.drop_zero, ← List.drop_drop, hdr, List.drop_drop]
  · intro s' l' q h
    rw [ck_cut (d := d) (s := s) (l := l)] at h
    exact h.left (by omega)
theorem ck_row0 {T lt : Int → Int → Prop} {V d : List Int} (h : Row0 T lt V) {s l : Nat} (hdr : d.drop s = V.drop s) : Row0 T lt (ck d s l) := by
  unfold ck
  rw [hdr]
  exact h.sublist ((List.take_sublist _ _).trans (List.drop_sublist _ _))
/-- Runs of b, from a on. -/
def Fr (T : Int → Int → Prop) (V d : List Int) (n b a : Nat) : Prop := ∀ s, a ≤ s → b ∣ s → s < n → Ch T V d s (min b (n - s))
/-- Runs of b, up to a. -/
def To (T : Int → Int → Prop) (V d : List Int) (b a : Nat) : Prop := ∀ s, b ∣ s → s + b ≤ a → Ch T V d s b
/-- The row as it stands ahead of the first insertions. -/
structure St1 (w : World) (g : Nat) (T : Int → Int → Prop) (V : List Int) (n a : Nat) (W : World) (d : List Int) : Prop where
  dt : Dt w g d W
  ln : d.length = n
  dr : d.drop a = V.drop a
  to : To T V d 20 a
  dva : 20 ∣ a
theorem ins_st {w W : World} {g cap bb n : Nat} {V d : List Int} {T lt : Int → Int → Prop} {U : List Int} (hT : Ord T) (hc : Cmp w g U lt cmpF #[.pointer (some ⟨bb, 0, none⟩)]) (hU : ∀ y ∈ V, y ∈ U) (hV : Row0 T lt V) (hn2 : n ≤ 256) (a b : Nat) (h : St1 w g T V n a W d) (hab : a ≤ b) (hb : b ≤ n) :
    Calls Tryz.prog 74 #[.slice (some ⟨g, 0, none⟩) n cap, .int .i64 (a : Nat), .int .i64 (b : Nat), cmpV bb] W fun e w' => e = .returned (.tuple #[]) ∧ ∃ d', Dt w g d' w' ∧ d'.length = n ∧ d'.drop b = V.drop b ∧ Ch T V d' a (b - a) ∧ To T V d' 20 a := by
  have hln := h.ln
  have e : d = d.take a ++ ck d a (b - a) ++ d.drop b := by
    have := ck_cut (d := d) (s := a) (l := b - a)
    rw [show a + (b - a) = b by omega] at this
    exact this
  have hd := h.dt
  rw [e] at hd
  refine (ins_any hT hd hc (fun y hy => hU y (by unfold ck at hy; rw [h.dr] at hy; exact mem_ck (l := b - a) hy)) (ck_row0 hV h.dr) hn2 (by rw [← e]; exact hln.symm) a b (by rw [List.length_take]; omega) (by rw [List.length_take, ck_len (by omega)]; omega)).mono ?_
  rintro e' w' ⟨rfl, Z, z1, z2, z3⟩
  have hm := ins_made (T := T) hln h.dr (l := b - a) (by omega) z1 z2
  rw [show a + (b - a) = b by omega] at hm
  exact ⟨rfl, _, z3, hm.1, hm.2.2.1, hm.2.1, fun s q1 q2 => hm.2.2.2 s 20 (by omega) (h.to s q1 q2)⟩
/-- The row as it stands between merges. -/
structure St2 (w : World) (g : Nat) (T : Int → Int → Prop) (V : List Int) (n bs a : Nat) (W : World) (d : List Int) : Prop where
  dt : Dt w g d W
  ln : d.length = n
  to : To T V d (2 * bs) a
  fr : Fr T V d n bs a
  dva : 2 * bs ∣ a
theorem sym_st {w W : World} {g cap bb n : Nat} {V d : List Int} {T lt : Int → Int → Prop} {U : List Int} (hT : Ord T) (hc : Cmp w g U lt cmpF #[.pointer (some ⟨bb, 0, none⟩)]) (hU : ∀ y ∈ V, y ∈ U) (hV : Row0 T lt V) (hn2 : n ≤ 256) (bs a m b : Nat) (hbs : 1 ≤ bs) (h : St2 w g T V n bs a W d) (hm : m = a + bs) (hmb : m < b) (hb : b ≤ n) (hbb : b = a + 2 * bs ∨ (b = n ∧ n < a + 2 * bs)) :
    Calls Tryz.prog 75 #[.slice (some ⟨g, 0, none⟩) n cap, .int .i64 (a : Nat), .int .i64 (m : Nat), .int .i64 (b : Nat), cmpV bb] W fun e w' => e = .returned (.tuple #[]) ∧ ∃ d', Dt w g d' w' ∧ d'.length = n ∧ Ch T V d' a (b - a) ∧ To T V d' (2 * bs) a ∧ (∀ s, b ≤ s → bs ∣ s → s < n → Ch T V d' s (min bs (n - s))) := by
  have hln := h.ln
  have hda : bs ∣ a := Nat.dvd_trans (Nat.dvd_mul_left bs 2) h.dva
  have c1 := h.fr a (Nat.le_refl _) hda (by omega)
  rw [show min bs (n - a) = bs by omega] at c1
  have c2 := h.fr (a + bs) (by omega) (Nat.dvd_add hda (Nat.dvd_refl _)) (by omega)
  obtain ⟨l, hl⟩ : ∃ l, l = b - m := ⟨_, rfl⟩
  rw [show min bs (n - (a + bs)) = l by omega] at c2
  obtain ⟨h2, e⟩ := Ch.two hV hU hln c1 c2 hbs (by omega) (by omega)
  have hd := h.dt
  rw [e] at hd
  have kk := sym_any (cap := cap) hT hc hn2 _ _ _ _ _ (Nat.le_refl _) h2 W a m b hd (by rw [List.length_take]; omega) (by rw [List.length_take, ck_len (by omega)]; omega) (by rw [List.length_take, ck_len (by omega), ck_len (by omega)]; omega)
  refine kk.mono ?_
  rintro e' w' ⟨rfl, Z, z1, z2⟩
  have hm := Ch.merged hln c1 c2 (by omega) z1
  refine ⟨rfl, _, z2, hm.1, ?_, fun s q1 q2 => hm.2.2 s _ (.inl q2) (h.to s q1 q2), fun s q1 q2 q3 => hm.2.2 s _ (.inr (by omega)) (h.fr s (by omega) q2 q3)⟩
  rw [show b - a = bs + l by omega]
  exact hm.2.1
end Go.Proofs.YtmaekpfkkpkgpaaGreatDoor
