/-
  The examples that each statement asks for.
-/
import Derived.Test.YtafihnnlblacnaaDoorEHit
import Derived.Test.YtafihnnlblacnaaDoorEIs
import Derived.Test.YtafihnnlblacnaaDoorEOf
import Derived.Test.YtafihnnlblacnaaDoorETxt
import Derived.Test.YtafihnnlblacnaaDoorENam
namespace Go.Proofs.YtafihnnlblacnaaDoor
open Go.RowKit Go.Shelf

theorem cls28 : cls 28 = 3 := by decide
theorem name40 : nameOf 40 = ⟨#[69, 76, 79, 79, 80]⟩ := by rfl
theorem find30 : finds ⟨#[69, 82, 79, 70, 83]⟩ = .tuple #[.int .i64 30, .bool true] := by
  unfold finds findOf
  simp only [ByteArray.toList_eq]
  rfl
theorem wrap_open (w : World) (hg : Typed w) : Calls Tryd.prog 20 #[.string ⟨#[111, 112, 101, 110]⟩, .string ⟨#[47, 97]⟩, .iface 22 (.int .i64 2)] w fun ev w' => ∃ b, ev = .returned (.iface 46 (.pointer (some ⟨b, 0, none⟩))) ∧ Row w' b [.string ⟨#[111, 112, 101, 110]⟩, .string ⟨#[47, 97]⟩, .iface 22 (.int .i64 2)] 48 ∧ Below w.heap.size w w' :=
  wrap_some _ _ _ [] (some 2) 0 w hg (.errno 2) (by decide)
theorem wrap_nil (w : World) (hg : Typed w) : Calls Tryd.prog 20 #[.string ⟨#[120]⟩, .string ⟨#[121]⟩, .nilIface] w fun ev w' => ev = .returned .nilIface ∧ Below w.heap.size w w' :=
  wrap_ok _ _ _ [] none 0 w hg .nothing rfl
theorem wrap_zero (w : World) (hg : Typed w) : Calls Tryd.prog 20 #[.string ⟨#[120]⟩, .string ⟨#[121]⟩, .iface 22 (.int .i64 0)] w fun ev w' => ev = .returned .nilIface ∧ Below w.heap.size w w' :=
  wrap_ok _ _ _ [] (some 0) 0 w hg (.errno 0) rfl

/-- What lies on through the examples: the error made first, the variable that holds it. -/
structure Live (w0 w : World) (b : Nat) : Prop where
  g : Typed w
  p : Pows w
  bel : Below w0.heap.size w0 w
  row : Row w b [.string ⟨#[111, 112, 101, 110]⟩, .string ⟨#[47, 97]⟩, .iface 22 (.int .i64 2)] 48
theorem Live.later {w0 w w' : World} {b : Nat} (h : Live w0 w b) (hb : Below w.heap.size w w') : Live w0 w' b :=
  ⟨h.g.later hb, h.p.later hb, Below.after h.bel hb, h.row.later hb⟩
theorem Live.chain {w0 w : World} {b : Nat} (h : Live w0 w b) : Ch w (.iface 46 (.pointer (some ⟨b, 0, none⟩))) [⟨#[111, 112, 101, 110]⟩] (some 2) 1 := .err h.row (.errno 2)
theorem Live.hit {w0 w w' : World} {b tb : Nat} (h : Live w0 w b) (ht : Row w tb [.pointer none] 46) (htb : w0.heap.size ≤ tb) (hz : 1 < w0.heap.size) (hk : Kept (fun k => k = tb) w w') : Live w0 w' b := by
  have hsz := h.bel.size
  refine ⟨h.g.keep hk (by omega), ?_, h.bel.trans (hk.below hsz (fun k e => by omega)), h.row.kept hk (h.row.ne ht (by decide))⟩
  exact var?_below (hk.below (B := w0.heap.size) hsz (fun k e => by omega)) pows_named hz h.p

set_option maxHeartbeats 4000000 in
theorem alive_any (w : World) (hg : Typed w) (hp : Pows w) : Calls Tryd.prog 15 #[] w fun e w' => e = .returned (.bool true) ∧ Below w.heap.size w w' := by
  have hz := hp.lt
  have HG : Hid (Typed w) := hg
  have HP : Hid (Pows w) := hp
  have M1 : Hid True := trivial
  have M2 : Hid True := trivial
  clear hg hp
  go_enter Tryd.func15, Tryd.ntmps15
  go_wp2_with (first
    | (go_at_call 20; clear M1; go_must (refine (wrap_open w HG.out).mono ?_); rintro e w1 ⟨b, rfl, hr, hb⟩; have L1 : Hid (Live w w1 b) := ⟨HG.out.later hb, HP.out.later hb, hb, hr⟩; clear hr hb HG HP)
    | (go_at_call 9; go_must (refine (find_any ⟨#[69, 82, 79, 70, 83]⟩ _).mono ?_); rintro e w2 ⟨rfl, hb⟩; rw [find30]; have L2 : Hid (Live w w2 b) := L1.out.later hb; clear hb L1)
    | (go_at_call 31; go_must (refine (As_hit b w2.heap.size (.pointer none) _ (L2.out.later (below_new _ _)).g (Row.new w2 [_] _)).mono ?_); rintro e w3 ⟨rfl, hk, hr⟩; have L3 : Hid (Live w w3 b) := (L2.out.later (below_new _ _)).hit (Row.new w2 [_] _) L2.out.bel.size hz hk; have c3 := hr.cell (i := 0) rfl; clear hk hr L2)
    | (go_at_call 25; go_must (refine (error_open b _ L3.out.row).mono ?_); rintro e w4 ⟨rfl, hb⟩; have L4 : Hid (Live w w4 b) := L3.out.later hb; clear hb L3)
    | (go_at_call 21; go_must (refine (of_any _ _ _ _ _ L4.out.g L4.out.chain).mono ?_); rintro e w5 ⟨rfl, hb⟩; have L5 : Hid (Live w w5 b) := L4.out.later hb; clear hb L4)
    | (go_at_call 22; go_must (refine (Is_E _ _ _ _ _ 2 _ L5.out.chain).mono ?_); rintro e w6 ⟨rfl, rfl⟩)
    | (go_at_call 20; clear M2; go_must (refine (wrap_nil _ L5.out.g).mono ?_); rintro e w7 ⟨rfl, hb⟩; have L7 : Hid (Live w w7 b) := L5.out.later hb; clear hb L5)
    | (go_at_call 20; go_must (refine (wrap_zero _ L7.out.g).mono ?_); rintro e w8 ⟨rfl, hb⟩; have L8 : Hid (Live w w8 b) := L7.out.later hb; clear hb L7)
    | (go_at_call 11; go_must (refine (class_any 28 _).mono ?_); rintro e w9 ⟨rfl, rfl⟩; rw [cls28])
    | (go_at_call 13; go_must (refine (name_any 40 (by decide) (by decide) _ L8.out.p).mono ?_); rintro e w10 ⟨rfl, hb⟩; rw [name40]; have L10 : Hid (Live w w10 b) := L8.out.later hb; clear hb L8))
  go_ret
  exact ⟨rfl, L10.out.bel⟩
end Go.Proofs.YtafihnnlblacnaaDoor
