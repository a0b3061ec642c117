/-
  What Kind of package node answers: a key's kind, its inode's number, its name, its block.
-/
import Derived.Test.YtefpcdpclpignaaKRd2
import Derived.Test.YtefpcdpclpignaaNLong
namespace Go.Proofs.Ytefpcdpclpignaa
open Go.RowKit M

theorem within_any (n a b : Int) (w : World) :
    Calls Try.prog 68 #[.int .i64 n, .int .i64 a, .int .i64 b] w fun e w' => e = .returned (.bool (decide (a ≤ n ∧ n ≤ b))) ∧ w = w' := by
  by_cases h1 : a ≤ n
  · go_enter Try.func68, Try.ntmps68
    go_wp2
    go_ret
    exact ⟨by simp [h1], rfl⟩
  · go_enter Try.func68, Try.ntmps68
    go_wp2
    go_ret
    have h2 : ¬ a ≤ n := by omega
    exact ⟨by simp [h2], rfl⟩
/-- Is it an inode's number; a block's? -/
def inoB (n : Int) : Bool := decide (1 ≤ n ∧ n ≤ 4096)
def blkB (n : Int) : Bool := decide (0 ≤ n ∧ n ≤ 127)
theorem isIno_any (n : Int) (w : World) :
    Calls Try.prog 52 #[.int .i64 n] w fun e w' => e = .returned (.bool (inoB n)) ∧ w = w' := by
  have h := fun W => within_any n 1 4096 W
  unfold inoB
  obtain ⟨c, hc⟩ : ∃ c, c = decide (1 ≤ n ∧ n ≤ 4096) := ⟨_, rfl⟩
  rw [← hc] at h ⊢
  clear hc
  go_enter Try.func52, Try.ntmps52
  go_wp2_with (go_at_call 68; refine (h _).mono ?_; rintro e w1 ⟨rfl, rfl⟩)
  go_ret
  exact ⟨rfl, rfl⟩
theorem isBlock_any (n : Int) (w : World) :
    Calls Try.prog 51 #[.int .i64 n] w fun e w' => e = .returned (.bool (blkB n)) ∧ w = w' := by
  have h := fun W => within_any n 0 127 W
  unfold blkB
  obtain ⟨c, hc⟩ : ∃ c, c = decide (0 ≤ n ∧ n ≤ 127) := ⟨_, rfl⟩
  rw [← hc] at h ⊢
  clear hc
  go_enter Try.func51, Try.ntmps51
  go_wp2_with (go_at_call 68; refine (h _).mono ?_; rintro e w1 ⟨rfl, rfl⟩)
  go_ret
  exact ⟨rfl, rfl⟩
/-- Is it a name? -/
def nameB (l : List UInt8) : Bool := rightOf l == 0
theorem isName_any (l : List UInt8) (hl : l.length ≤ maxLen) (w : World) :
    Calls Try.prog 50 #[.string (bs l)] w fun e w' => e = .returned (.bool (nameB l)) ∧ Below w.heap.size w w' := by
  have h := fun W => right_any l hl W
  unfold nameB
  obtain ⟨c, hc⟩ : ∃ c, c = rightOf l := ⟨_, rfl⟩
  obtain ⟨S, hS⟩ : ∃ S, S = bs l := ⟨_, rfl⟩
  rw [← hc, ← hS] at h
  rw [← hc, ← hS]
  clear hc hS
  go_enter Try.func50, Try.ntmps50
  go_wp2_with (go_at_call 80; refine (h _).mono ?_; rintro e w1 ⟨rfl, hb⟩)
  go_ret
  exact ⟨rfl, hb⟩

theorem belowK {w w1 w2 : World} {t : TypeId} {r : List UInt8} {sh : Bool} (hb : Below w.heap.size w w1) (p : RPost w1 w.heap.size t r sh w2) : Below w.heap.size w w2 :=
  hb.trans (p.kept.below hb.size (fun k e => by subst e; exact Nat.le_refl _))

/-- What Kind answers, as a value. -/
def kv (k n : Nat) (s : List UInt8) (b : Nat) : Value := .tuple #[.int .i64 k, .int .i64 n, .string (bs s), .int .i64 b]

abbrev HighAt (l r : List UInt8) (s s' : Bool) (i : Nat) : Prop := ∀ (W : World) (B : Nat), Rd W B 70 l s → Calls Try.prog 47 #[.pointer (some ⟨B, 0, none⟩)] W fun e w' => e = .returned (.int .i64 (i : Int)) ∧ RPost W B 70 r s' w'
abbrev KindAt (l r : List UInt8) (s s' : Bool) (i : Nat) : Prop := ∀ (W : World) (B : Nat), Rd W B 70 l s → Calls Try.prog 48 #[.pointer (some ⟨B, 0, none⟩)] W fun e w' => e = .returned (.int .i64 (i : Int)) ∧ RPost W B 70 r s' w'
abbrev DoneAt (r : List UInt8) (s : Bool) (d : Bool) : Prop := ∀ (W : World) (B : Nat), Rd W B 70 r s → Calls Try.prog 53 #[.pointer (some ⟨B, 0, none⟩)] W fun e w' => e = .returned (.bool d) ∧ W = w'
abbrev AllAt (r : List UInt8) (s : Bool) : Prop := ∀ (W : World) (B : Nat), Rd W B 70 r s → Calls Try.prog 49 #[.pointer (some ⟨B, 0, none⟩)] W fun e w' => e = .returned (.string (bs r)) ∧ RPost W B 70 [] s w'
abbrev InoAt (i : Nat) (o : Bool) : Prop := ∀ W : World, Calls Try.prog 52 #[.int .i64 (i : Int)] W fun e w' => e = .returned (.bool o) ∧ W = w'

theorem results_tmp4 {fn : Func} {t u v x : Tmp} (h : fn.results = #[.tmp t, .tmp u, .tmp v, .tmp x]) (tmps : Array Value) (P : Program) (w : World) :
    (results fn tmps).run P w = .ok (.tuple #[tmps.getD t undef, tmps.getD u undef, tmps.getD v undef, tmps.getD x undef]) w := by
  simp [results, h]

set_option maxRecDepth 10000 in
set_option maxHeartbeats 1000000 in
theorem kind_1 (l r1 r2 : List UInt8) (s1 s2 : Bool) (i : Nat) (o d : Bool) (w : World) (hh : HighAt l r1 false s1 i) (hk : KindAt r1 r2 s1 s2 1) (ho : InoAt i o) (hd : DoneAt r2 s2 d) :
    Calls Try.prog 9 #[.string (bs l)] w fun e w' => e = .returned (bif o && d then kv 1 i [] 0 else kv 0 0 [] 0) ∧ Below w.heap.size w w' := by
  have h0 := fun W => readKey_any l W
  obtain ⟨S, hS⟩ : ∃ S, S = bs l := ⟨_, rfl⟩
  rw [← hS] at h0 ⊢
  clear hS
  have M1 : Hid True := trivial
  cases o <;> cases d
  all_goals
    go_enter Try.func9, Try.ntmps9
    go_wp2_with (first
      | (go_at_call 46; refine (h0 _).mono ?_; rintro e w1 ⟨rfl, d1, hb⟩)
      | (go_at_call 47; clear M1; refine (hh _ _ d1).mono ?_; rintro e w2 ⟨rfl, p2⟩; have d2 := p2.rd; have hb2 := belowK hb p2; clear p2 d1)
      | (go_at_call 48; refine (hk _ _ d2).mono ?_; rintro e w3 ⟨rfl, p3⟩; have d3 := p3.rd; have hb3 := belowK hb2 p3; clear p3 d2)
      | (go_at_call 52; refine (ho _).mono ?_; rintro e wi ⟨rfl, rfl⟩)
      | (go_at_call 53; refine (hd _ _ d3).mono ?_; rintro e w5 ⟨rfl, rfl⟩))
    (try simp only [Exit.inBlock, Exit.then]); refine bodyPost_ret (results_tmp4 rfl _ _ _) rfl ?_
    exact ⟨rfl, hb3⟩

set_option maxRecDepth 10000 in
set_option maxHeartbeats 1000000 in
theorem kind_2 (l r1 r2 : List UInt8) (s1 s2 : Bool) (i : Nat) (n o d : Bool) (w : World) (hh : HighAt l r1 false s1 i) (hk : KindAt r1 r2 s1 s2 2) (ha : AllAt r2 s2) (hn : ∀ W, Calls Try.prog 50 #[.string (bs r2)] W fun e w' => e = .returned (.bool n) ∧ Below W.heap.size W w') (ho : InoAt i o) (hd : DoneAt [] s2 d) :
    Calls Try.prog 9 #[.string (bs l)] w fun e w' => e = .returned (bif n && o && d then kv 2 i r2 0 else kv 0 0 [] 0) ∧ Below w.heap.size w w' := by
  have h0 := fun W => readKey_any l W
  obtain ⟨S, hS⟩ : ∃ S, S = bs l := ⟨_, rfl⟩
  rw [← hS] at h0 ⊢
  clear hS
  have e2 : kv 2 i r2 0 = .tuple #[.int .i64 2, .int .i64 i, .string (bs r2), .int .i64 0] := rfl
  rw [e2]
  obtain ⟨R, hR⟩ : ∃ R, R = bs r2 := ⟨_, rfl⟩
  unfold AllAt at ha
  rw [← hR] at ha hn ⊢
  clear hR e2
  have M1 : Hid True := trivial
  cases n <;> cases o <;> cases d
  all_goals
    go_enter Try.func9, Try.ntmps9
    go_wp2_with (first
      | (go_at_call 46; refine (h0 _).mono ?_; rintro e w1 ⟨rfl, d1, hb⟩)
      | (go_at_call 47; clear M1; refine (hh _ _ d1).mono ?_; rintro e w2 ⟨rfl, p2⟩; have d2 := p2.rd; have hb2 := belowK hb p2; clear p2 d1)
      | (go_at_call 48; refine (hk _ _ d2).mono ?_; rintro e w3 ⟨rfl, p3⟩; have d3 := p3.rd; have hb3 := belowK hb2 p3; clear p3 d2)
      | (go_at_call 49; refine (ha _ _ d3).mono ?_; rintro e w4 ⟨rfl, p4⟩; have d4 := p4.rd; have hb4 := belowK hb3 p4; clear p4 d3)
      | (go_at_call 50; refine (hn _).mono ?_; rintro e w5 ⟨rfl, h5⟩; have d5 := Row.later d4 h5; have hb5 := Below.after hb4 h5; clear h5 d4)
      | (go_at_call 52; refine (ho _).mono ?_; rintro e wi ⟨rfl, rfl⟩)
      | (go_at_call 53; refine (hd _ _ d5).mono ?_; rintro e w6 ⟨rfl, rfl⟩))
    (try simp only [Exit.inBlock, Exit.then]); refine bodyPost_ret (results_tmp4 rfl _ _ _) rfl ?_
    exact ⟨rfl, hb5⟩

set_option maxRecDepth 10000 in
set_option maxHeartbeats 1000000 in
theorem kind_3 (l r1 r2 r3 : List UInt8) (s1 s2 : Bool) (i : Nat) (s3 : Bool) (j : Nat) (n o d : Bool) (w : World) (hh : HighAt l r1 false s1 i) (hk : KindAt r1 r2 s1 s2 3) (h2 : HighAt r2 r3 s2 s3 j) (hn : ∀ W, Calls Try.prog 51 #[.int .i64 (j : Int)] W fun e w' => e = .returned (.bool n) ∧ W = w') (ho : InoAt i o) (hd : DoneAt r3 s3 d) :
    Calls Try.prog 9 #[.string (bs l)] w fun e w' => e = .returned (bif n && o && d then kv 3 i [] j else kv 0 0 [] 0) ∧ Below w.heap.size w w' := by
  have h0 := fun W => readKey_any l W
  obtain ⟨S, hS⟩ : ∃ S, S = bs l := ⟨_, rfl⟩
  rw [← hS] at h0 ⊢
  clear hS
  have M1 : Hid True := trivial
  cases n <;> cases o <;> cases d
  all_goals
    go_enter Try.func9, Try.ntmps9
    go_wp2_with (first
      | (go_at_call 46; refine (h0 _).mono ?_; rintro e w1 ⟨rfl, d1, hb⟩)
      | (go_at_call 47; clear M1; refine (hh _ _ d1).mono ?_; rintro e w2 ⟨rfl, p2⟩; have d2 := p2.rd; have hb2 := belowK hb p2; clear p2 d1)
      | (go_at_call 48; refine (hk _ _ d2).mono ?_; rintro e w3 ⟨rfl, p3⟩; have d3 := p3.rd; have hb3 := belowK hb2 p3; clear p3 d2)
      | (go_at_call 47; refine (h2 _ _ d3).mono ?_; rintro e w4 ⟨rfl, p4⟩; have d4 := p4.rd; have hb4 := belowK hb3 p4; clear p4 d3)
      | (go_at_call 51; refine (hn _).mono ?_; rintro e w5 ⟨rfl, rfl⟩)
      | (go_at_call 52; refine (ho _).mono ?_; rintro e wi ⟨rfl, rfl⟩)
      | (go_at_call 53; refine (hd _ _ d4).mono ?_; rintro e w6 ⟨rfl, rfl⟩))
    (try simp only [Exit.inBlock, Exit.then]); refine bodyPost_ret (results_tmp4 rfl _ _ _) rfl ?_
    exact ⟨rfl, hb4⟩

set_option maxRecDepth 10000 in
set_option maxHeartbeats 1000000 in
theorem kind_4 (l r1 r2 r3 : List UInt8) (s1 s2 : Bool) (i : Nat) (s3 : Bool) (j : Nat) (n o d : Bool) (w : World) (hh : HighAt l r1 false s1 i) (hk : KindAt r1 r2 s1 s2 4) (h2 : HighAt r2 r3 s2 s3 j) (hn : ((i : Int) == 0) = n) (ho : InoAt j o) (hd : DoneAt r3 s3 d) :
    Calls Try.prog 9 #[.string (bs l)] w fun e w' => e = .returned (bif n && o && d then kv 4 j [] 0 else kv 0 0 [] 0) ∧ Below w.heap.size w w' := by
  have h0 := fun W => readKey_any l W
  obtain ⟨S, hS⟩ : ∃ S, S = bs l := ⟨_, rfl⟩
  rw [← hS] at h0 ⊢
  clear hS
  have M1 : Hid True := trivial
  cases n <;> cases o <;> cases d
  all_goals
    go_enter Try.func9, Try.ntmps9
    go_wp2_with (first
      | (go_at_call 46; refine (h0 _).mono ?_; rintro e w1 ⟨rfl, d1, hb⟩)
      | (go_at_call 47; clear M1; refine (hh _ _ d1).mono ?_; rintro e w2 ⟨rfl, p2⟩; have d2 := p2.rd; have hb2 := belowK hb p2; clear p2 d1)
      | (go_at_call 48; refine (hk _ _ d2).mono ?_; rintro e w3 ⟨rfl, p3⟩; have d3 := p3.rd; have hb3 := belowK hb2 p3; clear p3 d2)
      | (go_at_call 47; refine (h2 _ _ d3).mono ?_; rintro e w4 ⟨rfl, p4⟩; have d4 := p4.rd; have hb4 := belowK hb3 p4; clear p4 d3)
      | (go_at_call 52; refine (ho _).mono ?_; rintro e wi ⟨rfl, rfl⟩)
      | (go_at_call 53; refine (hd _ _ d4).mono ?_; rintro e w6 ⟨rfl, rfl⟩))
    (try simp only [Exit.inBlock, Exit.then]); refine bodyPost_ret (results_tmp4 rfl _ _ _) rfl ?_
    exact ⟨rfl, hb4⟩

set_option maxRecDepth 10000 in
set_option maxHeartbeats 1000000 in
theorem kind_0 (l r1 r2 : List UInt8) (s1 s2 : Bool) (i : Nat) (k : Nat) (w : World) (hh : HighAt l r1 false s1 i) (hk : KindAt r1 r2 s1 s2 k) (n1 : ((k : Int) == 1) = false) (n2 : ((k : Int) == 2) = false) (n3 : ((k : Int) == 3) = false) (n4 : ((k : Int) == 4) = false) :
    Calls Try.prog 9 #[.string (bs l)] w fun e w' => e = .returned (kv 0 0 [] 0) ∧ Below w.heap.size w w' := by
  have h0 := fun W => readKey_any l W
  obtain ⟨S, hS⟩ : ∃ S, S = bs l := ⟨_, rfl⟩
  rw [← hS] at h0 ⊢
  clear hS
  have M1 : Hid True := trivial
  skip
  all_goals
    go_enter Try.func9, Try.ntmps9
    go_wp2_with (first
      | (go_at_call 46; refine (h0 _).mono ?_; rintro e w1 ⟨rfl, d1, hb⟩)
      | (go_at_call 47; clear M1; refine (hh _ _ d1).mono ?_; rintro e w2 ⟨rfl, p2⟩; have d2 := p2.rd; have hb2 := belowK hb p2; clear p2 d1)
      | (go_at_call 48; refine (hk _ _ d2).mono ?_; rintro e w3 ⟨rfl, p3⟩; have d3 := p3.rd; have hb3 := belowK hb2 p3; clear p3 d2))
    (try simp only [Exit.inBlock, Exit.then]); refine bodyPost_ret (results_tmp4 rfl _ _ _) rfl ?_
    exact ⟨rfl, hb3⟩

end Go.Proofs.Ytefpcdpclpignaa
