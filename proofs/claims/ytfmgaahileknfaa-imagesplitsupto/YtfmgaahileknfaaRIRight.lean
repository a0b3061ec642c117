/-
  The document's Right.
-/
import Derived.Test.YtfmgaahileknfaaIRight
import Derived.Test.YtfmgaahileknfaaILess
import Derived.Test.YtfmgaahileknfaaIWd
import Derived.Test.YtfmgaahileknfaaIPack
import Derived.Test.YtfmgaahileknfaaIBx
namespace Go.Proofs.Ytfmgaahileknfaa
open Go.RowKit M
set_option maxRecDepth 10000

def rk (k : K) : Bool := decide (1 ≤ k.size) && decide (k.size ≤ 64)
theorem rkey_any (k : K) (hk : k.size ≤ maxLen) (w : World) :
    Calls Try.prog 20 #[.string k] w fun e w' => e = .returned (.bool (rk k)) ∧ w = w' := by
  unfold maxLen at hk
  unfold rk
  by_cases h1 : 1 ≤ k.size
  · go_enter Try.func20, Try.ntmps20
    go_wp2
    go_ret
    exact ⟨by simp [h1]; omega, rfl⟩
  · go_enter Try.func20, Try.ntmps20
    go_wp2
    go_ret
    exact ⟨by simp, rfl⟩
theorem rplace_any (s : St) (w : World) :
    Calls Try.prog 34 #[.agg #[.int .i64 s.leb, .int .i64 s.pos, .int .i64 s.size]] w fun e w' => e = .returned (.bool s.at) ∧ Below w.heap.size w w' := by
  have e : s.at = (decide (0 ≤ s.leb) && decide (s.leb < 256) && decide (0 ≤ s.pos) && decide (s.pos < 16777216) && decide (0 ≤ s.size) && decide (s.size ≤ 65535)) := by
    unfold St.at inB
    rw [Bool.eq_iff_iff]
    simp only [Bool.and_eq_true, decide_eq_true_eq]
    omega
  rw [e]
  obtain ⟨_, x, y, z⟩ := s
  dsimp only
  clear e
  by_cases h1 : 0 ≤ x
  · by_cases h2 : x < 256
    · by_cases h3 : 0 ≤ y
      · by_cases h4 : y < 16777216
        · by_cases h5 : 0 ≤ z
          · go_enter Try.func34, Try.ntmps34
            go_wp2
            go_ret
            exact ⟨by simp [h1, h2, h3, h4, h5], below_new _ _⟩
          · go_enter Try.func34, Try.ntmps34
            go_wp2
            go_ret
            exact ⟨by simp; omega, below_new _ _⟩
        · go_enter Try.func34, Try.ntmps34
          go_wp2
          go_ret
          exact ⟨by simp; omega, below_new _ _⟩
      · go_enter Try.func34, Try.ntmps34
        go_wp2
        go_ret
        exact ⟨by simp; omega, below_new _ _⟩
    · go_enter Try.func34, Try.ntmps34
      go_wp2
      go_ret
      exact ⟨by simp; omega, below_new _ _⟩
  · go_enter Try.func34, Try.ntmps34
    go_wp2
    go_ret
    exact ⟨by simp; omega, below_new _ _⟩

theorem klt_empty (k : K) : klt ⟨#[]⟩ k = decide (1 ≤ k.size) := by
  by_cases h : 1 ≤ k.size
  · rw [decide_eq_true h]
    unfold klt
    have e : (⟨#[]⟩ : ByteArray).toList = [] := by rw [ByteArray.toList_eq]
    rw [e]
    have : k.toList ≠ [] := fun q => by
      rw [ByteArray.toList_eq] at q
      have := congrArg List.length q
      rw [Array.length_toList] at this
      have : k.size = 0 := this
      omega
    cases hk : k.toList with
    | nil => exact absurd hk this
    | cons x y => rfl
  · rw [decide_eq_false h]
    cases e : klt ⟨#[]⟩ k with
    | false => rfl
    | true => exact absurd (klt_pos e) h
theorem fol_first (k : K) : fol ⟨#[]⟩ k = rk k := by unfold fol rk; rw [klt_empty]
theorem fol_next (x k : K) : fol x k = (rk k && klt x k) := by
  unfold fol rk
  cases e : klt x k with
  | false => simp
  | true => rw [decide_eq_true (klt_pos e)]; simp
set_option maxHeartbeats 8000000 in
theorem rright_in (level : Int) (a : Option Addr) (len cap : Nat) (l : List St) (w : World) (h : ZArg w a len cap l) (h1 : ¬ level < 0) (h2 : ¬ 15 < level) (h3 : 1 ≤ len) (h4 : len ≤ 8) :
    Calls Try.prog 30 #[.agg #[.int .i64 level, .slice a len cap]] w fun e w' => e = .returned (.bool (rises ⟨#[]⟩ l)) ∧ Below w.heap.size w w' := by
  have hln := h.len_eq
  have HK : Hid (∀ s ∈ l, s.key.size ≤ maxLen) := h.keys
  have G0 : Hid (Bx w (w.alloc (.cells #[.int .i64 level, .slice a len cap] 52)) w.heap.size level a len cap l) := Bx.new h
  have hcm := h.max
  have hlc := h.le
  unfold maxLen at hcm
  obtain ⟨R, hR⟩ : ∃ R, R = rises ⟨#[]⟩ l := ⟨_, rfl⟩
  have HR : Hid (R = rises ⟨#[]⟩ l) := hR
  rw [← hR]
  have HL : Hid (len = l.length) := hln
  have i3 : ¬ (len : Int) < 1 := by omega
  have i4 : ¬ (8 : Int) < (len : Int) := by omega
  clear h hln hR
  go_enter Try.func30, Try.ntmps30
  go_wp2
  go_loopg [3] len (fun kx s3 wr => ∃ (k : Nat) (x : K), k + kx = len ∧ s3 = .int .i64 (k : Nat) ∧ Hid (Bx w wr w.heap.size level a len cap l ∧ rises x (l.drop k) = R ∧ (k = 0 → x = ⟨#[]⟩) ∧ (∀ j s, k = j + 1 → l[j]? = some s → x = s.key)))
  case atStart => exact ⟨0, ⟨#[]⟩, by omega, rfl, (⟨G0.out, by rw [List.drop_zero]; exact HR.out.symm, fun _ => rfl, fun j s e => by omega⟩ : Bx w _ _ _ _ _ _ _ ∧ _)⟩
  case round =>
    obtain ⟨k, x, hk, rfl, I⟩ := hrel
    obtain ⟨g, u1, u2, u3⟩ := I.out
    obtain ⟨x0, x1⟩ := g.seen
    by_cases hlt : k < len
    · obtain ⟨b, off, y, rfl, hy, hd, q0, q1, q2, q3⟩ := zrow_at g.arg.row (k := k) (by have := HL.out; omega)
      rw [hd, rises] at u1
      have kK := HK.out y (List.mem_of_getElem? hy)
      have HG : Hid (Bx w wr w.heap.size level (some ⟨b, off, none⟩) len cap l) := g
      have HC : Hid (∀ (j : Nat) (s : St), l[j]? = some s → ∀ p : Wd wr, p.v.cell? ⟨b, off + j * 4, none⟩ = some (.string s.key) ∧ p.v.cell? ⟨b, off + j * 4 + 1, none⟩ = some (.int .i64 s.leb) ∧ p.v.cell? ⟨b, off + j * 4 + 2, none⟩ = some (.int .i64 s.pos) ∧ p.v.cell? ⟨b, off + j * 4 + 3, none⟩ = some (.int .i64 s.size)) := fun j s hs p => by
        rcases (HG.out.later p.h).arg.row with e | ⟨b', o', e, hc⟩
        · rw [e] at hs; simp at hs
        · cases e; exact hc j s hs
      have HX : Hid (∀ p : Wd wr, p.v.cell? ⟨w.heap.size, 0, none⟩ = some (.int .i64 level) ∧ p.v.cell? ⟨w.heap.size, 1, none⟩ = some (.slice (some ⟨b, off, none⟩) len cap)) := fun p => (HG.out.later p.h).seen
      have HY : Hid (l[k]? = some y) := hy
      have HKy : Hid (∀ p : Wd wr, Calls Try.prog 20 #[.string y.key] p.v fun e w'' => e = .returned (.bool (rk y.key)) ∧ ∃ q : Wd wr, w'' = q.v) := fun p => quiet_call p ((rkey_any y.key kK p.v).mono (by rintro e w' ⟨rfl, rfl⟩; exact ⟨rfl, Below.refl _ _⟩))
      have HPl : Hid (∀ p : Wd wr, Calls Try.prog 34 #[.agg #[.int .i64 y.leb, .int .i64 y.pos, .int .i64 y.size]] p.v fun e w'' => e = .returned (.bool y.at) ∧ ∃ q : Wd wr, w'' = q.v) := fun p => quiet_call p (rplace_any y p.v)
      have HNext : Hid (∀ p : Wd wr, (fol x y.key && y.at && rises y.key (l.drop (k + 1))) = rises y.key (l.drop (k + 1)) → Bx w p.v w.heap.size level (some ⟨b, off, none⟩) len cap l ∧ rises y.key (l.drop (k + 1)) = R ∧ (k + 1 = 0 → y.key = ⟨#[]⟩) ∧ (∀ j s, k + 1 = j + 1 → l[j]? = some s → y.key = s.key)) := fun p e => ⟨HG.out.later p.h, by rw [← u1, e], (fun e => by omega), (fun j s ej hs => by
        have : j = k := by omega
        subst this
        rw [HY.out] at hs; cases hs; rfl)⟩
      have hi1 : (k : Int) < (len : Int) := by omega
      cases hrk : rk y.key with
      | false =>
        rw [hrk] at HKy
        have HF : Hid (R = false) := by
          show _ = _
          rw [← u1]
          cases k with
          | zero => rw [u2 rfl, fol_first, hrk]; rfl
          | succ j => rw [fol_next, hrk]; rfl
        clear g u1 u2 u3 I hy hd q0 q1 q2 q3 HPl HNext
        go_wp2
        obtain ⟨z0, z1, z2, z3⟩ : (∀ p : Wd wr, p.v.cell? ⟨b, off + k * 4, none⟩ = some (.string y.key)) ∧ (∀ p : Wd wr, p.v.cell? ⟨b, off + k * 4 + 1, none⟩ = some (.int .i64 y.leb)) ∧ (∀ p : Wd wr, p.v.cell? ⟨b, off + k * 4 + 2, none⟩ = some (.int .i64 y.pos)) ∧ (∀ p : Wd wr, p.v.cell? ⟨b, off + k * 4 + 3, none⟩ = some (.int .i64 y.size)) := ⟨fun p => (HC.out k y HY.out p).1, fun p => (HC.out k y HY.out p).2.1, fun p => (HC.out k y HY.out p).2.2.1, fun p => (HC.out k y HY.out p).2.2.2⟩
        have v0 := fun p => (HX.out p).1
        have v1 := fun p => (HX.out p).2
        have ne := Wd.non wr
        refine quiet_below (by kernel_rfl) ?_
        repeat (first | go_big_quiet_skip | go_big_quiet_step (first | (go_at_call 20; exact HKy.out _)))
        refine wpQuiet_nil ?_
        rintro _ ⟨p7, rfl⟩
        have HB7 : Hid (Below w.heap.size w p7.v) := bafter HG.out.bel p7.h
        clear z0 z1 z2 z3 v0 v1 ne
        go_wp2
        go_ret
        exact ⟨by rw [HF.out]; rfl, HB7.out⟩
      | true =>
        rw [hrk] at HKy
        cases hat : y.at with
        | false =>
          rw [hat] at HPl
          have HF : Hid (R = false) := by
            show _ = _
            rw [← u1, hat]
            simp
          clear g u1 u2 u3 I hy hd q0 q1 q2 q3 HNext
          go_wp2
          obtain ⟨z0, z1, z2, z3⟩ : (∀ p : Wd wr, p.v.cell? ⟨b, off + k * 4, none⟩ = some (.string y.key)) ∧ (∀ p : Wd wr, p.v.cell? ⟨b, off + k * 4 + 1, none⟩ = some (.int .i64 y.leb)) ∧ (∀ p : Wd wr, p.v.cell? ⟨b, off + k * 4 + 2, none⟩ = some (.int .i64 y.pos)) ∧ (∀ p : Wd wr, p.v.cell? ⟨b, off + k * 4 + 3, none⟩ = some (.int .i64 y.size)) := ⟨fun p => (HC.out k y HY.out p).1, fun p => (HC.out k y HY.out p).2.1, fun p => (HC.out k y HY.out p).2.2.1, fun p => (HC.out k y HY.out p).2.2.2⟩
          have v0 := fun p => (HX.out p).1
          have v1 := fun p => (HX.out p).2
          have ne := Wd.non wr
          refine quiet_below (by kernel_rfl) ?_
          repeat (first | go_big_quiet_skip | go_big_quiet_step (first | (go_at_call 20; exact HKy.out _) | (go_at_call 34; exact HPl.out _)))
          refine wpQuiet_nil ?_
          rintro _ ⟨p7, rfl⟩
          have HB7 : Hid (Below w.heap.size w p7.v) := bafter HG.out.bel p7.h
          clear z0 z1 z2 z3 v0 v1 ne
          go_wp2
          go_ret
          exact ⟨by rw [HF.out]; rfl, HB7.out⟩
        | true =>
          rw [hat] at HPl
          cases k with
          | zero =>
            have HN2 : Hid (∀ p : Wd wr, Bx w p.v w.heap.size level (some ⟨b, off, none⟩) len cap l ∧ rises y.key (l.drop (0 + 1)) = R ∧ (0 + 1 = 0 → y.key = ⟨#[]⟩) ∧ (∀ j s, 0 + 1 = j + 1 → l[j]? = some s → y.key = s.key)) := fun p => HNext.out p (by rw [u2 rfl, fol_first, hrk, hat]; rfl)
            clear g u1 u2 u3 I hy hd q0 q1 q2 q3 HNext
            go_wp2
            obtain ⟨z0, z1, z2, z3⟩ : (∀ p : Wd wr, p.v.cell? ⟨b, off + 0 * 4, none⟩ = some (.string y.key)) ∧ (∀ p : Wd wr, p.v.cell? ⟨b, off + 0 * 4 + 1, none⟩ = some (.int .i64 y.leb)) ∧ (∀ p : Wd wr, p.v.cell? ⟨b, off + 0 * 4 + 2, none⟩ = some (.int .i64 y.pos)) ∧ (∀ p : Wd wr, p.v.cell? ⟨b, off + 0 * 4 + 3, none⟩ = some (.int .i64 y.size)) := ⟨fun p => (HC.out 0 y HY.out p).1, fun p => (HC.out 0 y HY.out p).2.1, fun p => (HC.out 0 y HY.out p).2.2.1, fun p => (HC.out 0 y HY.out p).2.2.2⟩
            have v0 := fun p => (HX.out p).1
            have v1 := fun p => (HX.out p).2
            have ne := Wd.non wr
            rw [Nat.zero_mul, Nat.add_zero] at z0 z1 z2 z3
            have h00 : ¬ (0 : Int) < (0 : Int) := by omega
            have h01 : (0 : Int) < (len : Int) := by omega
            refine quiet_below (by kernel_rfl) ?_
            repeat (first | go_big_quiet_skip | go_big_quiet_step (first | (go_at_call 20; exact HKy.out _) | (go_at_call 34; exact HPl.out _)))
            refine wpQuiet_nil ?_
            rintro _ ⟨p7, rfl⟩
            have HN7 := HN2.out p7
            have HN8 : Hid (Bx w p7.v w.heap.size level (some ⟨b, off, none⟩) len cap l ∧ rises y.key (l.drop (0 + 1)) = R ∧ (0 + 1 = 0 → y.key = ⟨#[]⟩) ∧ (∀ j s, 0 + 1 = j + 1 → l[j]? = some s → y.key = s.key)) := HN7
            clear z0 z1 z2 z3 v0 v1 ne HN7
            go_wp2
            go_roundg (len - 1)
            case measure => omega
            case rel => exact ⟨1, y.key, by omega, rfl, HN8.out⟩
          | succ j =>
            obtain ⟨sp, hsp⟩ : ∃ s, l[j]? = some s := ⟨_, List.getElem?_eq_getElem (by have := HL.out; omega)⟩
            have hx : x = sp.key := u3 j sp rfl hsp
            have HPv : Hid (l[j]? = some sp) := hsp
            have HLs : Hid (∀ p : Wd wr, Calls Try.prog 21 #[.string sp.key, .string y.key] p.v fun e w'' => e = .returned (.bool (klt sp.key y.key)) ∧ ∃ q : Wd wr, w'' = q.v) := fun p => quiet_call p ((less_any (HK.out sp (List.mem_of_getElem? hsp)) kK p.v).mono (by rintro e w' ⟨rfl, q, rfl⟩; exact ⟨rfl, below_drawn _ _⟩))
            have hfx : fol x y.key = klt sp.key y.key := by rw [hx, fol_next, hrk, Bool.true_and]
            cases hkl : klt sp.key y.key with
            | false =>
              rw [hkl] at HLs
              have HF : Hid (R = false) := by show _ = _; rw [← u1, hfx, hkl]; rfl
              clear g u1 u2 u3 I hy hd q0 q1 q2 q3 HNext hx hsp hfx
              go_wp2
              obtain ⟨z0, z1, z2, z3⟩ : (∀ p : Wd wr, p.v.cell? ⟨b, off + (j + 1) * 4, none⟩ = some (.string y.key)) ∧ (∀ p : Wd wr, p.v.cell? ⟨b, off + (j + 1) * 4 + 1, none⟩ = some (.int .i64 y.leb)) ∧ (∀ p : Wd wr, p.v.cell? ⟨b, off + (j + 1) * 4 + 2, none⟩ = some (.int .i64 y.pos)) ∧ (∀ p : Wd wr, p.v.cell? ⟨b, off + (j + 1) * 4 + 3, none⟩ = some (.int .i64 y.size)) := ⟨fun p => (HC.out (j + 1) y HY.out p).1, fun p => (HC.out (j + 1) y HY.out p).2.1, fun p => (HC.out (j + 1) y HY.out p).2.2.1, fun p => (HC.out (j + 1) y HY.out p).2.2.2⟩
              have v0 := fun p => (HX.out p).1
              have v1 := fun p => (HX.out p).2
              have ne := Wd.non wr
              have z4 := fun p => (HC.out j sp HPv.out p).1
              have hj0 : (0 : Int) < (j : Int) + 1 := by omega
              have hj1 : (j : Int) + 1 < (len : Int) := by omega
              have hj2 : (j : Int) < (len : Int) := by omega
              have hj3 : IntKind.i64.wrap ((j : Int) + 1 - 1) = (j : Int) := by rw [IntKind.wrap_i64]; omega
              refine quiet_below (by kernel_rfl) ?_
              repeat (first | go_big_quiet_skip | go_big_quiet_step (first | (go_at_call 20; exact HKy.out _) | (go_at_call 34; exact HPl.out _) | (go_at_call 21; exact HLs.out _)))
              refine wpQuiet_nil ?_
              rintro _ ⟨p7, rfl⟩
              have HB7 : Hid (Below w.heap.size w p7.v) := bafter HG.out.bel p7.h
              clear z0 z1 z2 z3 z4 v0 v1 ne
              go_wp2
              go_ret
              exact ⟨by rw [HF.out]; rfl, HB7.out⟩
            | true =>
              rw [hkl] at HLs
              have HN2 : Hid (∀ p : Wd wr, Bx w p.v w.heap.size level (some ⟨b, off, none⟩) len cap l ∧ rises y.key (l.drop (j + 1 + 1)) = R ∧ (j + 1 + 1 = 0 → y.key = ⟨#[]⟩) ∧ (∀ j' s, j + 1 + 1 = j' + 1 → l[j']? = some s → y.key = s.key)) := fun p => HNext.out p (by rw [hfx, hkl, hat]; rfl)
              clear g u1 u2 u3 I hy hd q0 q1 q2 q3 HNext hx hsp hfx
              go_wp2
              obtain ⟨z0, z1, z2, z3⟩ : (∀ p : Wd wr, p.v.cell? ⟨b, off + (j + 1) * 4, none⟩ = some (.string y.key)) ∧ (∀ p : Wd wr, p.v.cell? ⟨b, off + (j + 1) * 4 + 1, none⟩ = some (.int .i64 y.leb)) ∧ (∀ p : Wd wr, p.v.cell? ⟨b, off + (j + 1) * 4 + 2, none⟩ = some (.int .i64 y.pos)) ∧ (∀ p : Wd wr, p.v.cell? ⟨b, off + (j + 1) * 4 + 3, none⟩ = some (.int .i64 y.size)) := ⟨fun p => (HC.out (j + 1) y HY.out p).1, fun p => (HC.out (j + 1) y HY.out p).2.1, fun p => (HC.out (j + 1) y HY.out p).2.2.1, fun p => (HC.out (j + 1) y HY.out p).2.2.2⟩
              have v0 := fun p => (HX.out p).1
              have v1 := fun p => (HX.out p).2
              have ne := Wd.non wr
              have z4 := fun p => (HC.out j sp HPv.out p).1
              have hj0 : (0 : Int) < (j : Int) + 1 := by omega
              have hj1 : (j : Int) + 1 < (len : Int) := by omega
              have hj2 : (j : Int) < (len : Int) := by omega
              have hj3 : IntKind.i64.wrap ((j : Int) + 1 - 1) = (j : Int) := by rw [IntKind.wrap_i64]; omega
              refine quiet_below (by kernel_rfl) ?_
              repeat (first | go_big_quiet_skip | go_big_quiet_step (first | (go_at_call 20; exact HKy.out _) | (go_at_call 34; exact HPl.out _) | (go_at_call 21; exact HLs.out _)))
              refine wpQuiet_nil ?_
              rintro _ ⟨p7, rfl⟩
              have HN8 : Hid (Bx w p7.v w.heap.size level (some ⟨b, off, none⟩) len cap l ∧ rises y.key (l.drop (j + 1 + 1)) = R ∧ (j + 1 + 1 = 0 → y.key = ⟨#[]⟩) ∧ (∀ j' s, j + 1 + 1 = j' + 1 → l[j']? = some s → y.key = s.key)) := HN2.out p7
              clear z0 z1 z2 z3 z4 v0 v1 ne
              go_wp2
              go_roundg (len - (j + 2))
              case measure => omega
              case rel => exact ⟨j + 2, y.key, by omega, by go_num, HN8.out⟩
    · have hkl : k = len := by omega
      subst hkl
      rw [HL.out, List.drop_eq_nil_of_le (Nat.le_refl _), rises] at u1
      have HR2 : Hid (true = R) := u1
      have HB : Hid (Below w.heap.size w wr) := g.bel
      clear g u1 u2 u3 I
      go_wp2
      go_ret
      exact ⟨by rw [← HR2.out]; rfl, HB.out⟩
end Go.Proofs.Ytfmgaahileknfaa
