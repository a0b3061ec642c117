/-
  What Unpack of package image answers: the walks.
-/
import Derived.Test.YtfalbbcbgkiejaaIUnp
namespace Go.Proofs.Ytfalbbcbgkiejaa
open Go.RowKit M
set_option maxRecDepth 10000

/-- The answer: an image, or none. -/
def UnpPost (w : World) (o : Option (Nat × List St)) (e : Ending) (w' : World) : Prop :=
  ∃ (lv : Int) (a : Option Addr) (n c : Nat) (ok : Bool), e = .returned (.tuple #[.agg #[.int .i64 lv, .slice a n c], .bool ok]) ∧ Below w.heap.size w w' ∧
    (∀ L l, o = some (L, l) → ok = true ∧ lv = (L : Int) ∧ ZArg w' a n c l) ∧ (o = none → ok = false ∧ lv = 0 ∧ a = none ∧ n = 0 ∧ c = 0)
theorem UnpPost.no {w w' : World} {o : Option (Nat × List St)} (ho : o = none) (hb : Below w.heap.size w w') : UnpPost w o (.returned (.tuple #[.agg #[.int .i64 0, .slice none 0 0], .bool false])) w' :=
  ⟨0, none, 0, 0, false, rfl, hb, (fun L l e => by rw [ho] at e; cases e), fun _ => ⟨rfl, rfl, rfl, rfl, rfl⟩⟩
theorem UnpPost.yes {w w' : World} {o : Option (Nat × List St)} {L : Nat} {l : List St} (ho : o = some (L, l)) {a : Option Addr} {n c : Nat} (hz : ZArg w' a n c l) (hb : Below w.heap.size w w') : UnpPost w o (.returned (.tuple #[.agg #[.int .i64 (L : Int), .slice a n c], .bool true])) w' :=
  ⟨L, a, n, c, true, rfl, hb, (fun L' l' e => by rw [ho] at e; cases e; exact ⟨rfl, rfl, hz⟩), (fun e => by rw [ho] at e; cases e)⟩
theorem txV_le (n : Nat) (r : List UInt8) : (txV n r).length ≤ r.length := by
  unfold txV; split
  · simp
  · simp; omega
theorem rdS_keys : ∀ (c : Nat) (r : List UInt8), ∀ s ∈ rdS c r, s.key.size ≤ r.length
  | 0, _, s, h => by simp [rdS] at h
  | c + 1, r, s, h => by
    rw [rdS] at h
    rcases List.mem_cons.1 h with rfl | h
    · show (bs (txV (slK r) (sl1 r))).size ≤ _
      rw [bs_size]
      exact Nat.le_trans (txV_le _ _) (txR_len _ _)
    · exact Nat.le_trans (rdS_keys c _ s h) (sl5_len r)
theorem below_set2 {w W : World} {B : Nat} (h : Below w.heap.size w W) (hB : w.heap.size ≤ B) (x y : Value) : Below w.heap.size w ((W.setCell ⟨B, 0, none⟩ x).setCell ⟨B, 1, none⟩ y) := (h.setCell hB _).setCell hB _
theorem zero_set (w : World) : Row (w.alloc (.cells #[.int .i64 0, .slice none 0 0] 31)) w.heap.size [.int .i64 0, .slice none 0 0] 31 := Row.new w _ _
set_option maxHeartbeats 2000000 in
theorem unp_long (a : Option Addr) (n cap : Nat) (r : List UInt8) (w : World) (hn : n = r.length) (h : 579 < n) (hm : n ≤ maxLen) :
    Calls Try.prog 17 #[.slice a n cap] w fun e w' => UnpPost w (upk r) e w' := by
  have HU : Hid (upk r = none) := by show _ = _; unfold upk; rw [if_pos (by omega)]
  unfold maxLen at hm
  have h1 : (579 : Int) < (n : Int) := by omega
  clear hn h
  go_enter Try.func17, Try.ntmps17
  go_wp2
  (try simp only [Exit.inBlock, Exit.then])
  refine bodyPost_ret (v := .tuple #[.agg #[.int .i64 0, .slice none 0 0], .bool false]) ?_ rfl (UnpPost.no HU.out (below_new _ _))
  rw [results_cell_tmp rfl]
  go_simp
/-- Behind the conversion and the reader's box. -/
theorem head_boxes (w : World) (r : List UInt8) (W : World) (hW : W = (w.alloc (.cells #[.int .i64 0, .slice none 0 0] 31)).alloc (.cells #[.string (bs r), .bool false] 77)) :
    Row W w.heap.size [.int .i64 0, .slice none 0 0] 31 ∧ Rd W (w.heap.size + 1) 77 r false ∧ Below w.heap.size w W :=
  two_boxes w [.int .i64 0, .slice none 0 0] [.string (bs r), .bool false] 31 77 W hW
/-- The boxes of result and reader. -/
structure Hb (w W : World) (r : List UInt8) (sh : Bool) : Prop where
  res : Row W w.heap.size [.int .i64 0, .slice none 0 0] 31
  rd : Rd W (w.heap.size + 1) 77 r sh
  bel : Below w.heap.size w W
theorem Hb.read {w W W' : World} {r r' : List UInt8} {sh sh' : Bool} (h : Hb w W r sh) (p : RPost W (w.heap.size + 1) 77 r' sh' W') : Hb w W' r' sh' :=
  ⟨h.res.kept p.kept (by omega), p.rd, h.bel.trans (p.kept.below (h.bel.size) (fun k e => by omega))⟩
theorem Hb.seen {w W : World} {r : List UInt8} {sh : Bool} (h : Hb w W r sh) : W.cell? ⟨w.heap.size, 0, none⟩ = some (.int .i64 0) ∧ W.cell? ⟨w.heap.size, 1, none⟩ = some (.slice none 0 0) ∧ W.frozen? ⟨w.heap.size, 0, none⟩ = false ∧ W.frozen? ⟨w.heap.size, 1, none⟩ = false :=
  ⟨h.res.cell (i := 0) rfl, h.res.cell (i := 1) rfl, h.res.frozen 0, h.res.frozen 1⟩
set_option maxHeartbeats 4000000 in
theorem unp_bad (a : Option Addr) (n cap : Nat) (L : List Nat) (w : World) (hn : n = L.length) (h : n ≤ 579) (hr : BRow w a L) (hbad : ((upM (u8s L) != 84) || decide (8 < upC (u8s L))) = true) :
    Calls Try.prog 17 #[.slice a n cap] w fun e w' => UnpPost w (upk (u8s L)) e w' := by
  have hl : (u8s L).length = n := by rw [u8s_length, hn]
  have HU : Hid (upk (u8s L) = none) := by show _ = _; unfold upk; rw [if_neg (by omega), if_pos hbad]
  have HCV : Hid (∀ W, Below w.heap.size w W → (convert 25 9 (.slice a n cap)).run Try.prog W = .ok (.string (bs (u8s L))) W) := fun W hb => by rw [hn]; exact conv_row cap (hr.later hb)
  obtain ⟨r, er⟩ : ∃ r, r = u8s L := ⟨_, rfl⟩
  rw [← er] at hl HU HCV hbad ⊢
  have hcv := HCV.out (w.alloc (.cells #[.int .i64 0, .slice none 0 0] 31)) (below_new _ _)
  have hm : r.length ≤ maxLen := by unfold maxLen; omega
  have k1 : ∀ W, Hb w W r false → Calls Try.prog 40 #[.pointer (some ⟨w.heap.size + 1, 0, none⟩), .int .i64 1] W fun e w' => e = .returned (.int .i64 (upM r : Nat)) ∧ Hb w w' (txR 1 r) (txS 1 r false) := fun W hW => by
    refine (number_any _ _ 1 r false W hm (by decide) hW.rd).mono ?_
    rintro e w' ⟨rfl, p⟩
    exact ⟨rfl, hW.read p⟩
  have k2 : ∀ W sh, Hb w W (txR 1 r) sh → Calls Try.prog 40 #[.pointer (some ⟨w.heap.size + 1, 0, none⟩), .int .i64 1] W fun e w' => e = .returned (.int .i64 (upL r : Nat)) ∧ Hb w w' (txR 1 (txR 1 r)) (txS 1 (txR 1 r) sh) := fun W sh hW => by
    refine (number_any _ _ 1 (txR 1 r) sh W (Nat.le_trans (txR_len _ _) hm) (by decide) hW.rd).mono ?_
    rintro e w' ⟨rfl, p⟩
    exact ⟨rfl, hW.read p⟩
  have k3 : ∀ W sh, Hb w W (txR 1 (txR 1 r)) sh → Calls Try.prog 40 #[.pointer (some ⟨w.heap.size + 1, 0, none⟩), .int .i64 1] W fun e w' => e = .returned (.int .i64 (upC r : Nat)) ∧ Hb w w' (upR r) (txS 1 (txR 1 (txR 1 r)) sh) := fun W sh hW => by
    refine (number_any _ _ 1 (txR 1 (txR 1 r)) sh W (Nat.le_trans (txR_len _ _) (Nat.le_trans (txR_len _ _) hm)) (by decide) hW.rd).mono ?_
    rintro e w' ⟨rfl, p⟩
    exact ⟨rfl, hW.read p⟩
  have H2 : Hid (∀ W, Hb w W (txR 1 r) (txS 1 r false) → Calls Try.prog 40 #[.pointer (some ⟨w.heap.size + 1, 0, none⟩), .int .i64 1] W fun e w' => e = .returned (.int .i64 (upL r : Nat)) ∧ Hb w w' (txR 1 (txR 1 r)) (txS 1 (txR 1 r) (txS 1 r false))) := fun W hW => k2 W _ hW
  have H3 : Hid (∀ W, Hb w W (txR 1 (txR 1 r)) (txS 1 (txR 1 r) (txS 1 r false)) → Calls Try.prog 40 #[.pointer (some ⟨w.heap.size + 1, 0, none⟩), .int .i64 1] W fun e w' => e = .returned (.int .i64 (upC r : Nat)) ∧ Hb w w' (upR r) (upF r)) := fun W hW => k3 W _ hW
  obtain ⟨mk, emk⟩ : ∃ m, m = upM r := ⟨_, rfl⟩
  obtain ⟨lv, elv⟩ : ∃ m, m = upL r := ⟨_, rfl⟩
  obtain ⟨ct, ect⟩ : ∃ m, m = upC r := ⟨_, rfl⟩
  rw [← emk] at k1 hbad
  rw [← elv] at H2
  rw [← ect] at H3 hbad
  have H1 : Hid (∀ W, Hb w W r false → Calls Try.prog 40 #[.pointer (some ⟨w.heap.size + 1, 0, none⟩), .int .i64 1] W fun e w' => e = .returned (.int .i64 (mk : Int)) ∧ Hb w w' (txR 1 r) (txS 1 r false)) := k1
  obtain ⟨W, hW⟩ : ∃ W, W = (w.alloc (.cells #[.int .i64 0, .slice none 0 0] 31)).alloc (.cells #[.string (bs r), .bool false] 77) := ⟨_, rfl⟩
  have G0 : Hid (Hb w W r false) := by obtain ⟨q1, q2, q3⟩ := head_boxes w r W hW; exact ⟨q1, q2, q3⟩
  have hcase : ((mk : Int) != 84) = true ∨ (((mk : Int) != 84) = false ∧ (8 : Int) < (ct : Int)) := by
    cases hb : ((mk : Int) != 84) with
    | true => exact .inl rfl
    | false =>
      right
      have e1 : mk = 84 := by simp at hb; omega
      subst e1
      refine ⟨rfl, ?_⟩
      have : 8 < ct := by simpa using hbad
      omega
  have hn1 : ¬ (579 : Int) < (n : Int) := by omega
  clear er hn hr hl emk elv ect k1 k2 k3 hbad h HCV hm
  rcases hcase with hc | ⟨hc, hc2⟩
  all_goals
    have M1 : Hid True := trivial
    have M2 : Hid True := trivial
    go_enter Try.func17, Try.ntmps17
    go_wp2_with fail
    rw [← hW]
    clear hW hcv
    go_wp2_with (first
      | (clear M1; go_at_call 40; refine (H1.out _ G0.out).mono ?_; rintro e w1 ⟨rfl, p⟩; have G1 : Hid (Hb w w1 _ _) := p; clear p)
      | (clear M2; go_at_call 40; refine (H2.out _ G1.out).mono ?_; rintro e w2 ⟨rfl, p⟩; have G2 : Hid (Hb w w2 _ _) := p; clear p)
      | (go_at_call 40; refine (H3.out _ G2.out).mono ?_; rintro e w3 ⟨rfl, p⟩; have G3 : Hid (Hb w w3 _ _) := p; obtain ⟨m0, m1, f0, f1⟩ := p.seen; clear p))
    (try simp only [Exit.inBlock, Exit.then])
    refine bodyPost_ret (v := .tuple #[.agg #[.int .i64 0, .slice none 0 0], .bool false]) ?_ rfl (UnpPost.no HU.out (below_set2 G3.out.bel (Nat.le_refl _) _ _))
    rw [results_cell_tmp rfl]
    go_simp
end Go.Proofs.Ytfalbbcbgkiejaa
