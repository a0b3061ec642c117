/-
  Parse, as it runs.
-/
import Derived.Test.YtmaekpfkkpkgpaaGreatDoorBRead2
import Derived.Test.YtmaekpfkkpkgpaaGreatDoorBTxt2
namespace Go.Proofs.YtmaekpfkkpkgpaaGreatDoor
open Go.RowKit Go.Shelf
set_option maxRecDepth 10000

/-- The book whose text this is, if there is one. -/
def parseF (s : List UInt8) : Option (Int × List PB) := match rdF none (pieces 10 s) with
  | some (some (size, l)) => if textF size l = s then some (size, l) else none
  | _ => none
theorem bs_eq (a b : List UInt8) : ((bs a).toList == (bs b).toList) = decide (a = b) := by
  rw [bs_toList, bs_toList, Bool.eq_iff_iff, beq_iff_eq, decide_eq_true_iff]
/-- What Parse leaves. -/
def ParP (w : World) (o : Option (Int × List PB)) (e : Ending) (w' : World) : Prop :=
  Below w.heap.size w w' ∧ match o with
    | none => e = .returned (.tuple #[.pointer none, .int .i64 22])
    | some (size, l) => ∃ p q cap, e = .returned (.tuple #[.pointer (some ⟨p, 0, none⟩), .int .i64 0]) ∧ BLies w' p q cap size l ∧ w.heap.size ≤ p ∧ w.heap.size ≤ q ∧ BkOk size l
set_option maxHeartbeats 2000000 in
theorem parse_any (s : List UInt8) (hs : s.length ≤ 281474976710656) (w : World) (hE : Errs w) (hp : Pows w) :
    Calls Tryz.prog 10 #[.string (bs s)] w (ParP w (parseF s)) := by
  have kR := read_any s hs w hE
  cases hrd : rdF none (pieces 10 s) with
  | none =>
    have e1 : parseF s = none := by unfold parseF; rw [hrd]
    have kR' : Calls Tryz.prog 37 #[.string (bs s)] w fun e w' => e = .returned (.tuple #[.pointer none, .bool false]) ∧ Below w.heap.size w w' := by
      refine kR.mono ?_
      rintro e w' ⟨hb, ⟨_, rfl⟩ | ⟨st, v, h1, _⟩⟩
      · exact ⟨rfl, hb⟩
      · rw [hrd] at h1; cases h1
    rw [e1]
    clear kR e1 hrd
    go_enter Tryz.func10, Tryz.ntmps10
    go_wp2_with (go_at_call 37; refine kR'.mono ?_; rintro e w1 ⟨rfl, hb1⟩; have HB1 := hidW hb1; clear hb1)
    go_ret2
    exact ⟨HB1.out, rfl⟩
  | some st =>
    cases st with
    | none =>
      have e1 : parseF s = none := by unfold parseF; rw [hrd]
      have kR' : Calls Tryz.prog 37 #[.string (bs s)] w fun e w' => e = .returned (.tuple #[.pointer none, .bool false]) ∧ Below w.heap.size w w' := by
        refine kR.mono ?_
        rintro e w' ⟨hb, ⟨_, rfl⟩ | ⟨st, v, h1, rfl, h2⟩⟩
        · exact ⟨rfl, hb⟩
        · rw [hrd] at h1
          cases h1
          have h3 : v = .pointer none := h2
          subst h3
          exact ⟨rfl, hb⟩
      rw [e1]
      clear kR e1 hrd
      go_enter Tryz.func10, Tryz.ntmps10
      go_wp2_with (go_at_call 37; refine kR'.mono ?_; rintro e w1 ⟨rfl, hb1⟩; have HB1 := hidW hb1; clear hb1)
      go_ret2
      exact ⟨HB1.out, rfl⟩
    | some r =>
      obtain ⟨size, l⟩ := r
      have kR' : Calls Tryz.prog 37 #[.string (bs s)] w fun e w' => ∃ p q cap, e = .returned (.tuple #[.pointer (some ⟨p, 0, none⟩), .bool true]) ∧ (BLies w' p q cap size l ∧ w.heap.size ≤ p ∧ w.heap.size ≤ q ∧ BkOk size l) ∧ Below w.heap.size w w' := by
        refine kR.mono ?_
        rintro e w' ⟨hb, ⟨h1, _⟩ | ⟨st, v, h1, rfl, h2⟩⟩
        · rw [hrd] at h1; cases h1
        · rw [hrd] at h1
          cases h1
          obtain ⟨p, q, cap, rfl, h3⟩ := h2
          exact ⟨p, q, cap, rfl, h3, hb⟩
      have hT := hidW (fun (p q cap : Nat) (W : World) (h : BLies W p q cap size l) (ho : BkOk size l) (hb : Below w.heap.size w W) => text_any (w := W) ⟨h, hp.later hb⟩ ho.ok (by have := ho.s1; omega) ho.s2 ho.n2)
      have hq := bs_eq (textF size l) s
      by_cases ht : textF size l = s
      · have e1 : parseF s = some (size, l) := by unfold parseF; rw [hrd]; dsimp only; rw [if_pos ht]
        rw [e1]
        rw [decide_eq_true ht] at hq
        clear kR e1 hrd ht
        go_enter Tryz.func10, Tryz.ntmps10
        go_wp2_with (first
          | (go_at_call 37; refine kR'.mono ?_; rintro e w1 ⟨p, q, cap, rfl, hl, hb1⟩; have HB1 := hidW hb1; have HL := hidW hl; clear hl hb1)
          | (go_at_call 12; refine (hT.out _ _ _ _ HL.out.1 HL.out.2.2.2 HB1.out).mono ?_; rintro e w2 ⟨rfl, hb2⟩; have HB2 := hidW hb2; clear hb2))
        go_ret2
        exact ⟨Below.after HB1.out HB2.out, p, q, cap, rfl, HL.out.1.later HB2.out, HL.out.2⟩
      · have e1 : parseF s = none := by unfold parseF; rw [hrd]; dsimp only; rw [if_neg ht]
        rw [e1]
        rw [decide_eq_false ht] at hq
        clear kR e1 hrd ht
        go_enter Tryz.func10, Tryz.ntmps10
        go_wp2_with (first
          | (go_at_call 37; refine kR'.mono ?_; rintro e w1 ⟨p, q, cap, rfl, hl, hb1⟩; have HB1 := hidW hb1; have HL := hidW hl; clear hl hb1)
          | (go_at_call 12; refine (hT.out _ _ _ _ HL.out.1 HL.out.2.2.2 HB1.out).mono ?_; rintro e w2 ⟨rfl, hb2⟩; have HB2 := hidW hb2; clear hb2))
        go_ret2
        exact ⟨Below.after HB1.out HB2.out, rfl⟩
end Go.Proofs.YtmaekpfkkpkgpaaGreatDoor
