/-
  What the document's answers Put, Get, Sum, Blank and Fill are: the same lists and numbers.
  What the document's answers Frame and Unframe are.
  The bounds' checks, and what Count and Mapping of package header answer: a page's image in new memory, or EINVAL.
  What image, Count and Mapping of package header answer: a page's image in new memory, or EINVAL.
  What Count and Mapping of package header answer where a number can't be: EINVAL, and nothing.
-/
import Derived.Test.YtkfecngkdlajgaaGreatDoorGB
import Derived.Test.YtkfecngkdlajgaaGreatDoorGC
import Derived.Deep.AppendLies
import Derived.Laws.AppendOwnNone
import Derived.Deep.RegionHeld3
namespace Go.Proofs.YtkfecngkdlajgaaGreatDoor.Hd
open Go.RowKit M
set_option linter.unusedVariables false

end Go.Proofs.YtkfecngkdlajgaaGreatDoor.Hd
namespace Go.Proofs.YtkfecngkdlajgaaGreatDoor.Hd
open Go.RowKit M

theorem cells_any {w : World} {ad : Addr} {l : List Nat} (h : BRow w (some ad) l) : ∀ j u, (l.map u8v)[j]? = some u → w.cell? (ad.add j) = some u := by
  rcases h with rfl | ⟨b, off, ha, hc⟩
  · intro j u hj; simp at hj
  · cases ha
    exact BRow.cells hc
theorem wpList_append_bytes {w : World} {ops : Array Oper} {rest : List Oper} {o : Oper} {a : Act} {Q : Exit → Act → World → Prop} (hgd : o.guard = none) (s x : Operand)
    (ho : o.op = .call { callee := .builtin .append, args := #[s, x], argTypes := #[56, 56] })
    (base : Nat) (v : Value) (n : Nat) (xs : List Value) (hs : a.eval s = v) (hown : w.ownsRow base 5 1 v n xs)
    (ao : Option Addr) (m c : Nat) (M : List Nat) (hx : a.eval x = .slice ao m c) (hM : m = M.length) (hr : BRow w ao M) (hnil : ao = none → m = 0 ∧ c = 0)
    (h63 : n + m ≤ maxLen) (hbytes : (n + m) * 1 ≤ 140737488355328) (hbase : base ≤ w.heap.size)
    (h : ∀ v' w', w'.ownsRow base 5 1 v' (n + m) (xs ++ M.map u8v) → w.grownBy w' v.ownBlock → wpList Tryz.prog ops Q rest (a.put o.dst v') w') : wpList Tryz.prog ops Q (o :: rest) a w := by
  obtain ⟨i0, hi, hz0, hz1, hz2⟩ := info_parts info8
  cases ao with
  | none =>
    obtain ⟨rfl, rfl⟩ := hnil rfl
    have hM0 : M = [] := List.eq_nil_of_length_eq_zero hM.symm
    subst hM0
    refine wpList_append_own_none hgd s x 56 ho base 5 i0 1 Tryz.underlying56 hi v n xs hs hown hx ?_
    exact h v w (by simpa using hown) ⟨rfl, rfl, rfl, Nat.le_refl _, fun _ _ _ => rfl⟩
  | some ad =>
    exact wpList_append_own w hgd s x 56 ho base 5 i0 (.int .u8 0) 1 1 Tryz.underlying56 hi hz0 hz1 hz2 rfl (by omega) v n xs hs hown ad m c (M.map u8v) hx (by simp [hM]) (cells_any hr) (u8v_one _) h63 hbytes hbase
      (fun v' w' h1 h2 _ => h v' w' h1 h2)
theorem own_shape {w : World} {base n : Nat} {v : Value} {l : List Nat} (hn : n = l.length) (h : w.ownsRow base 5 1 v l.length (l.map u8v)) :
    ∃ a cap, v = .slice a n cap ∧ BRow w a l ∧ (a = none → n = 0 ∧ cap = 0) ∧ n ≤ cap ∧ cap ≤ maxLen := by
  subst hn
  rcases h.2 with ⟨rfl, hn⟩ | ⟨g, cap, cur, rfl, hbg, hgg, hnc, hcm, hcs, htake⟩
  · have : l = [] := List.eq_nil_of_length_eq_zero hn
    subst this
    exact ⟨none, 0, rfl, .inl rfl, fun _ => ⟨rfl, rfl⟩, Nat.le_refl _, by decide⟩
  · obtain ⟨a, c, hv, hr, _⟩ := owns_row h
    simp only [Value.slice.injEq] at hv
    obtain ⟨rfl, _, rfl⟩ := hv
    exact ⟨_, cap, rfl, hr, (fun h => by cases h), hnc, hcm⟩
theorem grown_own {B : Nat} {w w1 w2 : World} {v : Value} {e n : Nat} {xs : List Value} (h : Below B w w1) (hg : w1.grownBy w2 v.ownBlock) (hB : B ≤ w1.heap.size) (ho : w1.ownsRow B e 1 v n xs) : Below B w w2 :=
  h.grown hg hB (fun k hk => (ho.lt k hk).1)
end Go.Proofs.YtkfecngkdlajgaaGreatDoor.Hd
namespace Go.Proofs.YtkfecngkdlajgaaGreatDoor.Hd
open Go.RowKit Go.Extern.Stop Go.Stop Go.Extern M

/-- An error of the type t in which errors.Is finds EINVAL. -/
def Wrg (t : TypeId) (w : World) (e : Ending) (w' : World) : Prop :=
  ∃ b, e = .returned (.iface t (.pointer (some ⟨b, 0, none⟩))) ∧ Bad w' (.iface t (.pointer (some ⟨b, 0, none⟩))) ∧ Below w.heap.size w w'

theorem join2_nil (g : Nat) (w : World) (s : Row w g [.nilIface, .nilIface] 82) :
    Calls Tryz.prog 199 #[.slice (some ⟨g, 0, none⟩) 2 2] w fun e w' => e = .returned .nilIface ∧ w = w' :=
  (join_any g 2 2 _ w s rfl (by decide) (by intro v hv; simp at hv; exact .inl hv)).mono fun e w' h => h.1 rfl
theorem Bad.nn {w : World} {v : Value} (h : Bad w v) : nn v = true := by cases h <;> rfl
theorem join2_bad (g : Nat) (v1 v2 : Value) (w : World) (s : Row w g [v1, v2] 82) (h1 : v1 = .nilIface ∨ Bad w v1) (h2 : v2 = .nilIface ∨ Bad w v2) (hne : v1 ≠ .nilIface ∨ v2 ≠ .nilIface) :
    Calls Tryz.prog 199 #[.slice (some ⟨g, 0, none⟩) 2 2] w (Wrg 317 w) := by
  have hsh : ∀ v ∈ [v1, v2], v = .nilIface ∨ ∃ t x, v = .iface t x := by
    intro v hv
    simp at hv
    rcases hv with rfl | rfl
    · exact h1.imp id fun h => by obtain ⟨t, x, e⟩ := h.shape; exact ⟨t, _, e⟩
    · exact h2.imp id fun h => by obtain ⟨t, x, e⟩ := h.shape; exact ⟨t, _, e⟩
  obtain ⟨v, rest, hf, hv, hr⟩ : ∃ v rest, [v1, v2].filter nn = v :: rest ∧ Bad w v ∧ rest.length ≤ 1 := by
    rcases h1 with rfl | h1
    · rcases h2 with rfl | h2
      · rcases hne with h | h <;> exact absurd rfl h
      · exact ⟨v2, [], by have h0 : nn .nilIface = false := rfl; simp [h2.nn, h0], h2, by simp⟩
    · exact ⟨v1, [v2].filter nn, by simp [List.filter_cons, h1.nn], h1, List.length_filter_le nn [v2]⟩
  refine (join_any g 2 2 _ w s rfl (by decide) hsh).mono fun e w' h => ?_
  obtain ⟨v', rfl, b, g', cap, rfl, hr1, hr2, hb⟩ := h.2 (by rw [hf]; simp)
  rw [hf] at hr1 hr2
  have hrow : Row w' g' [v] 82 := by
    obtain ⟨r, hr2⟩ := hr2
    exact ⟨rest ++ r, by simpa using hr2⟩
  exact ⟨b, rfl, .join hr1 hrow (by simp) (by simp; omega) (hv.later hb), hb⟩

set_option maxRecDepth 10000 in
set_option maxHeartbeats 4000000 in
theorem within_ok (what : ByteArray) (n least most : Int) (w : World) (h1 : least ≤ n) (h2 : n ≤ most) :
    Calls Tryz.prog 167 #[.string what, .int .i64 n, .int .i64 least, .int .i64 most] w fun e w' => e = .returned .nilIface ∧ w = w' := by
  go_enter Tryz.func167, Tryz.ntmps167
  go_wp2
  go_ret
  exact ⟨rfl, rfl⟩
theorem wrg_new (w : World) (what : ByteArray) : Wrg 256 w (.returned (.iface 256 (.pointer (some ⟨w.heap.size, 0, none⟩)))) (w.alloc (.cells #[.string what, .iface 30 (.int .i64 22)] 258)) :=
  ⟨w.heap.size, rfl, .wrong (Row.new w [_, _] _), below_new _ _⟩
set_option maxRecDepth 10000 in
set_option maxHeartbeats 4000000 in
theorem within_bad (what : ByteArray) (n least most : Int) (w : World) (h : n < least ∨ most < n) :
    Calls Tryz.prog 167 #[.string what, .int .i64 n, .int .i64 least, .int .i64 most] w (Wrg 256 w) := by
  by_cases h1 : n < least
  · clear h
    go_enter Tryz.func167, Tryz.ntmps167
    go_wp2
    go_ret
    exact wrg_new w what
  · have h2 : most < n := by omega
    clear h
    go_enter Tryz.func167, Tryz.ntmps167
    go_wp2
    go_ret
    exact wrg_new w what
/-- The page's size may be. -/
def pageOk (n : Int) : Prop := 64 ≤ n ∧ n ≤ 512
def countOk (n : Int) : Prop := 0 ≤ n ∧ n ≤ 2147483647
def lebOk (n : Int) : Prop := 0 ≤ n ∧ n ≤ 255
def pagesOk (n : Int) : Prop := 0 ≤ n ∧ n ≤ 64

set_option maxRecDepth 10000 in
set_option maxHeartbeats 4000000 in
theorem page_ok (n : Int) (w : World) (h : pageOk n) : Calls Tryz.prog 164 #[.int .i64 n] w fun e w' => e = .returned .nilIface ∧ w = w' := by
  have H : Hid (pageOk n) := h
  clear h
  go_enter Tryz.func164, Tryz.ntmps164
  go_wp2_with (go_at_call 167; refine (within_ok _ _ _ _ _ H.out.1 H.out.2).mono ?_; rintro e w' ⟨rfl, rfl⟩)
  go_ret
  exact ⟨rfl, rfl⟩
set_option maxRecDepth 10000 in
set_option maxHeartbeats 4000000 in
theorem page_bad (n : Int) (w : World) (h : ¬ pageOk n) : Calls Tryz.prog 164 #[.int .i64 n] w (Wrg 256 w) := by
  have H : Hid (n < 64 ∨ 512 < n) := by show _ ∨ _; unfold pageOk at h; omega
  clear h
  go_enter Tryz.func164, Tryz.ntmps164
  go_wp2_with (go_at_call 167; refine (within_bad _ _ _ _ _ H.out).mono ?_; rintro e w' ⟨b, rfl, hb⟩)
  go_ret
  exact ⟨b, rfl, hb⟩
set_option maxRecDepth 10000 in
set_option maxHeartbeats 4000000 in
theorem count_ok (n : Int) (w : World) (h : countOk n) : Calls Tryz.prog 129 #[.int .i64 n] w fun e w' => e = .returned .nilIface ∧ w = w' := by
  have H : Hid (countOk n) := h
  clear h
  go_enter Tryz.func129, Tryz.ntmps129
  go_wp2_with (go_at_call 167; refine (within_ok _ _ _ _ _ H.out.1 H.out.2).mono ?_; rintro e w' ⟨rfl, rfl⟩)
  go_ret
  exact ⟨rfl, rfl⟩
set_option maxRecDepth 10000 in
set_option maxHeartbeats 4000000 in
theorem count_bad (n : Int) (w : World) (h : ¬ countOk n) : Calls Tryz.prog 129 #[.int .i64 n] w (Wrg 256 w) := by
  have H : Hid (n < 0 ∨ 2147483647 < n) := by show _ ∨ _; unfold countOk at h; omega
  clear h
  go_enter Tryz.func129, Tryz.ntmps129
  go_wp2_with (go_at_call 167; refine (within_bad _ _ _ _ _ H.out).mono ?_; rintro e w' ⟨b, rfl, hb⟩)
  go_ret
  exact ⟨b, rfl, hb⟩

/-- A Map's fields. -/
def mapV (leb seq pages : Int) : Value := .agg #[.int .i64 leb, .int .u64 seq, .int .i64 pages]
set_option maxRecDepth 10000 in
set_option maxHeartbeats 4000000 in
theorem map_ok (leb seq pages : Int) (w : World) (h1 : lebOk leb) (h2 : pagesOk pages) : Calls Tryz.prog 214 #[mapV leb seq pages] w fun e w' => e = .returned .nilIface ∧ Below w.heap.size w w' := by
  have H1 : Hid (lebOk leb) := h1
  have H2 : Hid (pagesOk pages) := h2
  clear h1 h2
  have M1 : Hid True := trivial
  obtain ⟨W, hW⟩ : ∃ W, W = w.alloc (.cells #[.int .i64 leb, .int .u64 seq, .int .i64 pages] 198) := ⟨_, rfl⟩
  have hr : Row W w.heap.size [.int .i64 leb, .int .u64 seq, .int .i64 pages] 198 := by rw [hW]; exact Row.new w [_, _, _] _
  have c0 : W.cell? ⟨w.heap.size, 0, none⟩ = some (.int .i64 leb) := hr.cell (i := 0) rfl
  have c2 : W.cell? ⟨w.heap.size, 2, none⟩ = some (.int .i64 pages) := hr.cell (i := 2) rfl
  have hlt := hr.lt
  have HB : Hid (Below w.heap.size w W) := by rw [hW]; exact below_new _ _
  clear hr
  unfold mapV
  go_enter Tryz.func214, Tryz.ntmps214
  go_wp2_with fail
  rw [← hW]
  clear hW
  go_region_held3 (fun w' => w'.cell? ⟨w.heap.size, 0, none⟩ = some (.int .i64 leb) ∧ w'.cell? ⟨w.heap.size, 2, none⟩ = some (.int .i64 pages)) (first | assumption | go_keep)
    (first
    | (go_at_call 167; clear M1; refine (within_ok _ _ _ _ _ H1.out.1 H1.out.2).mono ?_; rintro e w' ⟨rfl, rfl⟩)
    | (go_at_call 167; refine (within_ok _ _ _ _ _ H2.out.1 H2.out.2).mono ?_; rintro e w' ⟨rfl, rfl⟩)
    | (go_at_call 199; refine (join2_nil _ _ (Row.new W [_, _] _).drew).mono ?_; rintro e w' ⟨rfl, rfl⟩))
  all_goals go_wp2
  all_goals go_ret
  all_goals exact ⟨rfl, Below.after (Below.after HB.out (below_new _ _)) (Below.refl _ _).drew⟩
theorem below_drew (w : World) : Below w.heap.size w w.drew := (Below.refl _ _).drew

set_option maxRecDepth 10000 in
set_option maxHeartbeats 4000000 in
theorem map_bad1 (leb seq pages : Int) (w : World) (h1 : leb < 0 ∨ 255 < leb) (h2 : pagesOk pages) : Calls Tryz.prog 214 #[mapV leb seq pages] w (Wrg 317 w) := by
  have H1 : Hid (leb < 0 ∨ 255 < leb) := h1
  have H2 : Hid (pagesOk pages) := h2
  clear h1 h2
  have M1 : Hid True := trivial
  obtain ⟨W, hW⟩ : ∃ W, W = w.alloc (.cells #[.int .i64 leb, .int .u64 seq, .int .i64 pages] 198) := ⟨_, rfl⟩
  have hr : Row W w.heap.size [.int .i64 leb, .int .u64 seq, .int .i64 pages] 198 := by rw [hW]; exact Row.new w [_, _, _] _
  have c0 : W.cell? ⟨w.heap.size, 0, none⟩ = some (.int .i64 leb) := hr.cell (i := 0) rfl
  have c2 : W.cell? ⟨w.heap.size, 2, none⟩ = some (.int .i64 pages) := hr.cell (i := 2) rfl
  have hlt := hr.lt
  have HB : Hid (Below w.heap.size w W) := by rw [hW]; exact below_new _ _
  have HR : Hid (Row W w.heap.size [.int .i64 leb, .int .u64 seq, .int .i64 pages] 198) := hr
  clear hr
  unfold mapV
  go_enter Tryz.func214, Tryz.ntmps214
  go_wp2_with fail
  rw [← hW]
  clear hW
  go_region_held3 (fun w' => w'.cell? ⟨w.heap.size, 0, none⟩ = some (.int .i64 leb) ∧ w'.cell? ⟨w.heap.size, 2, none⟩ = some (.int .i64 pages)) (first | assumption | go_keep)
    (first
    | (go_at_call 167; clear M1; refine (within_bad _ _ _ _ _ H1.out).mono ?_; rintro e w1 ⟨b1, rfl, hv1, hb1⟩; have hr1 := HR.out.drew.later hb1; have hS1 : w1.cell? ⟨w.heap.size, 0, none⟩ = some (.int .i64 leb) ∧ w1.cell? ⟨w.heap.size, 2, none⟩ = some (.int .i64 pages) := ⟨hr1.cell (i := 0) rfl, hr1.cell (i := 2) rfl⟩; have HB1 : Hid (Below w.heap.size w w1) := Below.after (Below.after HB.out (below_drew _)) hb1; have HV1 : Hid (Bad _ _) := hv1; have HR1 : Hid (Row _ _ _ _) := hr1; clear hb1 hv1 hr1)
    | (go_at_call 167; refine (within_ok _ _ _ _ _ H2.out.1 H2.out.2).mono ?_; rintro e w' ⟨rfl, rfl⟩)
    | (go_at_call 199; refine (join2_bad _ _ _ _ (Row.new w1 [_, _] _) (.inr (HV1.out.later (below_new _ _))) (.inl rfl) (.inl (by simp))).mono ?_; rintro e w3 ⟨b3, rfl, hv3, hb3⟩; have hr3 := (HR1.out.alloc _).later hb3; have hS3 : w3.cell? ⟨w.heap.size, 0, none⟩ = some (.int .i64 leb) ∧ w3.cell? ⟨w.heap.size, 2, none⟩ = some (.int .i64 pages) := ⟨hr3.cell (i := 0) rfl, hr3.cell (i := 2) rfl⟩; clear hr3; have HV3 : Hid (Bad _ _) := hv3; have HB3 : Hid (Below _ _ _) := hb3; clear hv3 hb3))
  all_goals go_wp2
  all_goals go_ret
  all_goals exact ⟨b3, rfl, HV3.out, Below.after (Below.after HB1.out (below_new _ _)) HB3.out⟩

set_option maxRecDepth 10000 in
set_option maxHeartbeats 4000000 in
theorem map_bad2 (leb seq pages : Int) (w : World) (h1 : lebOk leb) (h2 : pages < 0 ∨ 64 < pages) : Calls Tryz.prog 214 #[mapV leb seq pages] w (Wrg 317 w) := by
  have H1 : Hid (lebOk leb) := h1
  have H2 : Hid (pages < 0 ∨ 64 < pages) := h2
  clear h1 h2
  have M1 : Hid True := trivial
  obtain ⟨W, hW⟩ : ∃ W, W = w.alloc (.cells #[.int .i64 leb, .int .u64 seq, .int .i64 pages] 198) := ⟨_, rfl⟩
  have hr : Row W w.heap.size [.int .i64 leb, .int .u64 seq, .int .i64 pages] 198 := by rw [hW]; exact Row.new w [_, _, _] _
  have c0 : W.cell? ⟨w.heap.size, 0, none⟩ = some (.int .i64 leb) := hr.cell (i := 0) rfl
  have c2 : W.cell? ⟨w.heap.size, 2, none⟩ = some (.int .i64 pages) := hr.cell (i := 2) rfl
  have hlt := hr.lt
  have HB : Hid (Below w.heap.size w W) := by rw [hW]; exact below_new _ _
  have HR : Hid (Row W w.heap.size [.int .i64 leb, .int .u64 seq, .int .i64 pages] 198) := hr
  clear hr
  unfold mapV
  go_enter Tryz.func214, Tryz.ntmps214
  go_wp2_with fail
  rw [← hW]
  clear hW
  go_region_held3 (fun w' => w'.cell? ⟨w.heap.size, 0, none⟩ = some (.int .i64 leb) ∧ w'.cell? ⟨w.heap.size, 2, none⟩ = some (.int .i64 pages)) (first | assumption | go_keep)
    (first
    | (go_at_call 167; clear M1; refine (within_ok _ _ _ _ _ H1.out.1 H1.out.2).mono ?_; rintro e w' ⟨rfl, rfl⟩)
    | (go_at_call 167; refine (within_bad _ _ _ _ _ H2.out).mono ?_; rintro e w2 ⟨b2, rfl, hv2, hb2⟩; have hr2 := HR.out.drew.later hb2; have hS2 : w2.cell? ⟨w.heap.size, 0, none⟩ = some (.int .i64 leb) ∧ w2.cell? ⟨w.heap.size, 2, none⟩ = some (.int .i64 pages) := ⟨hr2.cell (i := 0) rfl, hr2.cell (i := 2) rfl⟩; have HB2 : Hid (Below w.heap.size w w2) := Below.after (Below.after HB.out (below_drew _)) hb2; have HV2 : Hid (Bad _ _) := hv2; have HR2 : Hid (Row _ _ _ _) := hr2; clear hb2 hv2 hr2)
    | (go_at_call 199; refine (join2_bad _ _ _ _ (Row.new w2 [_, _] _) (.inl rfl) (.inr (HV2.out.later (below_new _ _))) (.inr (by simp))).mono ?_; rintro e w3 ⟨b3, rfl, hv3, hb3⟩; have hr3 := (HR2.out.alloc _).later hb3; have hS3 : w3.cell? ⟨w.heap.size, 0, none⟩ = some (.int .i64 leb) ∧ w3.cell? ⟨w.heap.size, 2, none⟩ = some (.int .i64 pages) := ⟨hr3.cell (i := 0) rfl, hr3.cell (i := 2) rfl⟩; clear hr3; have HV3 : Hid (Bad _ _) := hv3; have HB3 : Hid (Below _ _ _) := hb3; clear hv3 hb3))
  all_goals go_wp2
  all_goals go_ret
  all_goals exact ⟨b3, rfl, HV3.out, Below.after (Below.after HB2.out (below_new _ _)) HB3.out⟩

set_option maxRecDepth 10000 in
set_option maxHeartbeats 4000000 in
theorem map_bad3 (leb seq pages : Int) (w : World) (h1 : leb < 0 ∨ 255 < leb) (h2 : pages < 0 ∨ 64 < pages) : Calls Tryz.prog 214 #[mapV leb seq pages] w (Wrg 317 w) := by
  have H1 : Hid (leb < 0 ∨ 255 < leb) := h1
  have H2 : Hid (pages < 0 ∨ 64 < pages) := h2
  clear h1 h2
  have M1 : Hid True := trivial
  obtain ⟨W, hW⟩ : ∃ W, W = w.alloc (.cells #[.int .i64 leb, .int .u64 seq, .int .i64 pages] 198) := ⟨_, rfl⟩
  have hr : Row W w.heap.size [.int .i64 leb, .int .u64 seq, .int .i64 pages] 198 := by rw [hW]; exact Row.new w [_, _, _] _
  have c0 : W.cell? ⟨w.heap.size, 0, none⟩ = some (.int .i64 leb) := hr.cell (i := 0) rfl
  have c2 : W.cell? ⟨w.heap.size, 2, none⟩ = some (.int .i64 pages) := hr.cell (i := 2) rfl
  have hlt := hr.lt
  have HB : Hid (Below w.heap.size w W) := by rw [hW]; exact below_new _ _
  have HR : Hid (Row W w.heap.size [.int .i64 leb, .int .u64 seq, .int .i64 pages] 198) := hr
  clear hr
  unfold mapV
  go_enter Tryz.func214, Tryz.ntmps214
  go_wp2_with fail
  rw [← hW]
  clear hW
  go_region_held3 (fun w' => w'.cell? ⟨w.heap.size, 0, none⟩ = some (.int .i64 leb) ∧ w'.cell? ⟨w.heap.size, 2, none⟩ = some (.int .i64 pages)) (first | assumption | go_keep)
    (first
    | (go_at_call 167; clear M1; refine (within_bad _ _ _ _ _ H1.out).mono ?_; rintro e w1 ⟨b1, rfl, hv1, hb1⟩; have hr1 := HR.out.drew.later hb1; have hS1 : w1.cell? ⟨w.heap.size, 0, none⟩ = some (.int .i64 leb) ∧ w1.cell? ⟨w.heap.size, 2, none⟩ = some (.int .i64 pages) := ⟨hr1.cell (i := 0) rfl, hr1.cell (i := 2) rfl⟩; have HB1 : Hid (Below w.heap.size w w1) := Below.after (Below.after HB.out (below_drew _)) hb1; have HV1 : Hid (Bad _ _) := hv1; have HR1 : Hid (Row _ _ _ _) := hr1; clear hb1 hv1 hr1)
    | (go_at_call 167; refine (within_bad _ _ _ _ _ H2.out).mono ?_; rintro e w2 ⟨b2, rfl, hv2, hb2⟩; have hr2 := HR1.out.later hb2; have hS2 : w2.cell? ⟨w.heap.size, 0, none⟩ = some (.int .i64 leb) ∧ w2.cell? ⟨w.heap.size, 2, none⟩ = some (.int .i64 pages) := ⟨hr2.cell (i := 0) rfl, hr2.cell (i := 2) rfl⟩; have HB2 : Hid (Below w.heap.size w w2) := Below.after HB1.out hb2; have HV2 : Hid (Bad _ _) := hv2; have HV12 : Hid (Bad w2 _) := HV1.out.later hb2; have HR2 : Hid (Row _ _ _ _) := hr2; clear hb2 hv2 hr2)
    | (go_at_call 199; refine (join2_bad _ _ _ _ (Row.new w2 [_, _] _) (.inr (HV12.out.later (below_new _ _))) (.inr (HV2.out.later (below_new _ _))) (.inl (by simp))).mono ?_; rintro e w3 ⟨b3, rfl, hv3, hb3⟩; have hr3 := (HR2.out.alloc _).later hb3; have hS3 : w3.cell? ⟨w.heap.size, 0, none⟩ = some (.int .i64 leb) ∧ w3.cell? ⟨w.heap.size, 2, none⟩ = some (.int .i64 pages) := ⟨hr3.cell (i := 0) rfl, hr3.cell (i := 2) rfl⟩; clear hr3; have HV3 : Hid (Bad _ _) := hv3; have HB3 : Hid (Below _ _ _) := hb3; clear hv3 hb3))
  all_goals go_wp2
  all_goals go_ret
  all_goals exact ⟨b3, rfl, HV3.out, Below.after (Below.after HB2.out (below_new _ _)) HB3.out⟩
end Go.Proofs.YtkfecngkdlajgaaGreatDoor.Hd
namespace Go.Proofs.YtkfecngkdlajgaaGreatDoor.Hd
open Go.RowKit Go.Extern.Stop Go.Stop Go.Extern M

/-- A page's image of a payload. -/
def imgL (p : List Nat) (page : Nat) : List Nat := fillL (frameL p) page
def countL (n : Nat) : List Nat := 69 :: putL 4 n
def mapL (leb seq pages : Nat) : List Nat := 77 :: (putL 2 leb ++ (putL 8 seq ++ putL 1 pages))
theorem countL_length (n : Nat) : (countL n).length = 5 := by simp [countL, putL_length]
theorem mapL_length (a b c : Nat) : (mapL a b c).length = 12 := by simp [mapL, putL_length]
theorem countL_lt (n : Nat) : ∀ x ∈ countL n, x < 256 := by
  intro x hx
  simp only [countL, List.mem_cons] at hx
  rcases hx with rfl | hx
  · decide
  · exact putL_lt _ _ x hx
theorem mapL_lt (a b c : Nat) : ∀ x ∈ mapL a b c, x < 256 := by
  intro x hx
  simp only [mapL, List.mem_cons, List.mem_append] at hx
  rcases hx with rfl | hx | hx | hx
  · decide
  · exact putL_lt _ _ x hx
  · exact putL_lt _ _ x hx
  · exact putL_lt _ _ x hx
theorem imgL_length (p : List Nat) (page : Nat) : (imgL p page).length = page := fillL_length _ _

theorem Own.from {w w1 w2 : World} {v : Value} {l : List Nat} (h : Below w.heap.size w w1) (ho : Own w1 w2 v l) : Own w w2 v l := by
  refine ⟨⟨ho.1.1, ?_⟩, Below.after h ho.2⟩
  rcases ho.1.2 with hn | ⟨g, cap, cur, he, hbg, rest⟩
  · exact .inl hn
  · exact .inr ⟨g, cap, cur, he, Nat.le_trans h.size hbg, rest⟩

/-- A page's bytes l in new memory, and OK. -/
def ImgPost (w : World) (l : List Nat) (page : Nat) (e : Ending) (w' : World) : Prop :=
  ∃ g, e = .returned (.tuple #[.slice (some ⟨g, 0, none⟩) page page, .int .i64 0]) ∧ Own w w' (.slice (some ⟨g, 0, none⟩) page page) l
theorem frame_at (a : Option Addr) (cap n : Nat) (l : List Nat) (w : World) (hn : n = l.length) (h1 : 1 ≤ n) (h2 : n ≤ 1024) (hb : ∀ x ∈ l, x < 256) (hr : BRow w a l) :
    Calls Tryz.prog 104 #[.slice a n cap] w fun e w' => e = .returned (.tuple #[.slice (some ⟨w.heap.size, 0, none⟩) (6 + n) (6 + n), .int .i64 0]) ∧ BRow w' (some ⟨w.heap.size, 0, none⟩) (frameL l) ∧ Below w.heap.size w w' := by
  subst hn
  refine (frame_yes a cap l w h1 h2 hb hr).mono ?_
  rintro e w' ⟨rfl, ho⟩
  exact ⟨rfl, own_at ho, ho.2⟩
theorem fill_img (a : Option Addr) (cap n page : Nat) (l : List Nat) (w : World) (hn : n = l.length) (hp : page ≤ 2147483647) (hr : BRow w a l) :
    Calls Tryz.prog 189 #[.slice a n cap, .int .i64 page] w fun e w' => e = .returned (.slice (some ⟨w.heap.size, 0, none⟩) page page) ∧ Own w w' (.slice (some ⟨w.heap.size, 0, none⟩) page page) (fillL l page) := by
  subst hn
  exact fill_any a cap l page hp w hr

set_option maxRecDepth 10000 in
set_option maxHeartbeats 4000000 in
theorem image_any (a : Option Addr) (cap n page : Nat) (p : List Nat) (w : World) (hn : n = p.length) (h1 : 1 ≤ n) (h2 : n ≤ 1024) (hb : ∀ x ∈ p, x < 256) (hp : page ≤ 2147483647) (hr : BRow w a p) :
    Calls Tryz.prog 200 #[.slice a n cap, .int .i64 page] w (ImgPost w (imgL p page) page) := by
  have hf := frame_at a cap n p w hn h1 h2 hb hr
  have HFL : Hid (6 + n = (frameL p).length) := by show _ = _; rw [frameL_length, hn]; omega
  have HP : Hid (page ≤ 2147483647) := hp
  clear hn hb hr hp
  go_enter Tryz.func200, Tryz.ntmps200
  go_wp2_with (first
    | (go_at_call 104; refine hf.mono ?_; rintro e w1 ⟨rfl, hr1, hb1⟩; have HR1 : Hid (BRow _ _ _) := hr1; have HB1 : Hid (Below _ _ _) := hb1; clear hr1 hb1 hf)
    | (go_at_call 189; refine (fill_img _ _ _ page (frameL p) w1 HFL.out HP.out HR1.out).mono ?_; rintro e w2 ⟨rfl, ho2⟩; have HO2 : Hid (Own _ _ _ _) := ho2; clear ho2))
  go_ret2
  exact ⟨_, rfl, HO2.out.from HB1.out⟩

theorem own_one (w W : World) (x : Int) (h : w.heap.size ≤ W.heap.size) : (W.alloc (.cells #[.int .u8 x] 5)).ownsRow w.heap.size 5 1 (.slice (some ⟨W.heap.size, 0, none⟩) 1 1) 1 [.int .u8 x] :=
  owns_of_block h rfl (by decide) (heap_alloc_new W _)
theorem count_row {w : World} {base n : Nat} {v : Value} (h : w.ownsRow base 5 1 v (1 + 4) ([.int .u8 69] ++ (putL 4 n).map u8v)) : w.ownsRow base 5 1 v (countL n).length ((countL n).map u8v) := by
  rw [countL_length]
  exact h

set_option maxRecDepth 10000 in
set_option maxHeartbeats 4000000 in
theorem count_yes (n page : Nat) (w : World) (h1 : n ≤ 2147483647) (h2 : 64 ≤ page) (h3 : page ≤ 512) :
    Calls Tryz.prog 169 #[.int .i64 n, .int .i64 page] w (ImgPost w (imgL (countL n) page) page) := by
  have H1 : Hid (countOk n) := by show _ ∧ _; omega
  have H2 : Hid (pageOk page) := by show _ ∧ _; omega
  have HP : Hid (page ≤ 2147483647) := by show _ ≤ _; omega
  have HN : Hid (n < 18446744073709551616) := by show _ < _; omega
  have HBN : Hid (1 + 4 ≤ maxLen ∧ (1 + 4) * 1 ≤ 140737488355328) := ⟨by decide, by decide⟩
  have HBB : Hid (Below w.heap.size w ((w.alloc (.cells #[.nilIface, .nilIface] 82)).alloc (.cells #[.int .u8 69] 5))) := Below.after (below_new _ _) (below_new _ _)
  have HOWN : Hid (((w.alloc (.cells #[.nilIface, .nilIface] 82)).alloc (.cells #[.int .u8 69] 5)).ownsRow w.heap.size 5 1 (.slice (some ⟨w.heap.size + 1, 0, none⟩) 1 1) 1 [.int .u8 69]) := by
    have := own_one w (w.alloc (.cells #[.nilIface, .nilIface] 82)) 69 (by simp)
    simp only [size_new] at this
    exact this
  go_enter Tryz.func169, Tryz.ntmps169
  go_wp2_with (first
    | (go_at_call 129; refine (count_ok _ _ H1.out).mono ?_; rintro e w' ⟨rfl, rfl⟩)
    | (go_at_call 164; refine (page_ok _ _ H2.out).mono ?_; rintro e w' ⟨rfl, rfl⟩)
    | (go_at_call 199; refine (join2_nil _ _ (Row.new w [_, _] _)).mono ?_; rintro e w' ⟨rfl, rfl⟩)
    | (go_at_call 198; refine (errnoOf_nil _).mono ?_; rintro e w' ⟨rfl, rfl⟩)
    | (go_at_call 37; refine (put_any n HN.out 4 4 rfl _).mono ?_; rintro e w1 ⟨rfl, ho1⟩; have hown1 := owns_later HOWN.out ho1.2; have hb1 := Below.after HBB.out ho1.2; have hr1 := own_at ho1; simp only [size_new] at hr1; clear ho1)
    | (at_builtin; go_must (refine wpList_append_bytes rfl (.tmp 19) (.tmp 22) rfl w.heap.size _ 1 _ rfl hown1 _ 4 4 (putL 4 n) rfl (putL_length _ _).symm hr1 (fun h => by cases h) HBN.out.1 HBN.out.2 hb1.size ?_); intro v2 w2 hown2 hgrow; have hb2 := grown_own hb1 hgrow hb1.size hown1; obtain ⟨a2, c2, rfl, hr2, _⟩ := own_shape (countL_length n).symm (count_row hown2); clear hgrow hown1 hr1 hb1 hown2)
    | (go_at_call 200; go_must (refine (image_any a2 c2 5 page (countL n) w2 (countL_length n).symm (by decide) (by decide) (countL_lt n) HP.out hr2).mono ?_); rintro e w3 ⟨g3, rfl, ho3⟩))
  go_ret2
  exact ⟨g3, rfl, ho3.from hb2⟩

theorem map_row {w : World} {base leb seq pages : Nat} {v : Value} (h : w.ownsRow base 5 1 v (1 + 2 + 8 + 1) ([.int .u8 77] ++ (putL 2 leb).map u8v ++ (putL 8 seq).map u8v ++ (putL 1 pages).map u8v)) : w.ownsRow base 5 1 v (mapL leb seq pages).length ((mapL leb seq pages).map u8v) := by
  rw [mapL_length]
  simpa [mapL, u8v, List.append_assoc] using h
/-- What lies on through Mapping: the boxed Map, and all that was. -/
structure Mp (w1 w : World) (b leb seq pages : Nat) : Prop where
  bel : Below w1.heap.size w1 w
  row : Row w b [.int .i64 leb, .int .u64 seq, .int .i64 pages] 198
theorem Mp.later {w1 w w' : World} {b leb seq pages : Nat} (h : Mp w1 w b leb seq pages) (hb : Below w.heap.size w w') : Mp w1 w' b leb seq pages := ⟨Below.after h.bel hb, h.row.later hb⟩
theorem Mp.grown {w1 w w' : World} {b leb seq pages n : Nat} {v : Value} {xs : List Value} (h : Mp w1 w b leb seq pages) (hg : w.grownBy w' v.ownBlock) (ho : w.ownsRow w1.heap.size 5 1 v n xs) (hlt : b < w1.heap.size) : Mp w1 w' b leb seq pages := by
  have hb := grown_own h.bel hg h.bel.size ho
  refine ⟨hb, h.row.same (hg.block b h.row.lt fun e => ?_)⟩
  have := (ho.lt b e.symm).1
  omega

set_option maxRecDepth 10000 in
set_option maxHeartbeats 4000000 in
theorem mapping_yes (leb seq pages page : Nat) (w : World) (h1 : leb ≤ 255) (h2 : pages ≤ 64) (hs : seq < 18446744073709551616) (h3 : 64 ≤ page) (h4 : page ≤ 512) :
    Calls Tryz.prog 191 #[mapV leb seq pages, .int .i64 page] w (ImgPost w (imgL (mapL leb seq pages) page) page) := by
  have H1 : Hid (lebOk leb) := by show _ ∧ _; omega
  have H2 : Hid (pagesOk pages) := by show _ ∧ _; omega
  have H3 : Hid (pageOk page) := by show _ ∧ _; omega
  have HP : Hid (page ≤ 2147483647) := by show _ ≤ _; omega
  have HN1 : Hid (leb < 18446744073709551616) := by show _ < _; omega
  have HN3 : Hid (pages < 18446744073709551616) := by show _ < _; omega
  have HN2 : Hid (seq < 18446744073709551616) := hs
  have cM := map_ok leb seq pages
  obtain ⟨W, hW⟩ : ∃ W, W = w.alloc (.cells #[.int .i64 leb, .int .u64 seq, .int .i64 pages] 198) := ⟨_, rfl⟩
  have hr : Row W w.heap.size [.int .i64 leb, .int .u64 seq, .int .i64 pages] 198 := by rw [hW]; exact Row.new w [_, _, _] _
  have c0 : W.cell? ⟨w.heap.size, 0, none⟩ = some (.int .i64 leb) := hr.cell (i := 0) rfl
  have c1 : W.cell? ⟨w.heap.size, 1, none⟩ = some (.int .u64 seq) := hr.cell (i := 1) rfl
  have c2 : W.cell? ⟨w.heap.size, 2, none⟩ = some (.int .i64 pages) := hr.cell (i := 2) rfl
  have HB : Hid (Below w.heap.size w W) := by rw [hW]; exact below_new _ _
  have HR : Hid (Row W w.heap.size [.int .i64 leb, .int .u64 seq, .int .i64 pages] 198) := hr
  clear hr hs
  have HA2 : Hid (1 + 2 ≤ maxLen ∧ (1 + 2) * 1 ≤ 140737488355328) := ⟨by decide, by decide⟩
  have HA8 : Hid (1 + 2 + 8 ≤ maxLen ∧ (1 + 2 + 8) * 1 ≤ 140737488355328) := ⟨by decide, by decide⟩
  have HA1 : Hid (1 + 2 + 8 + 1 ≤ maxLen ∧ (1 + 2 + 8 + 1) * 1 ≤ 140737488355328) := ⟨by decide, by decide⟩
  have M1 : Hid True := trivial
  have M2 : Hid True := trivial
  have M3 : Hid True := trivial
  have M4 : Hid True := trivial
  unfold mapV at cM ⊢
  go_enter Tryz.func191, Tryz.ntmps191
  go_wp2_with fail
  rw [← hW]
  clear hW
  go_wp2_with (first
    | (go_at_call 214; refine (cM _ H1.out H2.out).mono ?_; rintro e w1 ⟨rfl, hb1⟩; have hr1 := HR.out.later hb1; have hl1 := hr1.lt; have d0 : w1.cell? ⟨w.heap.size, 0, none⟩ = some (.int .i64 leb) := hr1.cell (i := 0) rfl; have HM1 : Hid (Mp w1 ((w1.alloc (.cells #[.nilIface, .nilIface] 82)).alloc (.cells #[.int .u8 77] 5)) w.heap.size leb seq pages) := Mp.later ⟨Below.refl _ _, hr1⟩ (Below.after (below_new _ _) (below_new _ _)); have HB1 : Hid (Below w.heap.size w w1) := Below.after HB.out hb1; have HO1 : Hid (World.ownsRow ((w1.alloc (.cells #[.nilIface, .nilIface] 82)).alloc (.cells #[.int .u8 77] 5)) w1.heap.size 5 1 (.slice (some ⟨(w1.alloc (.cells #[.nilIface, .nilIface] 82)).heap.size, 0, none⟩) 1 1) 1 [.int .u8 77]) := own_one w1 (w1.alloc (.cells #[.nilIface, .nilIface] 82)) 77 (by simp); simp only [size_new] at HO1; clear hr1 hb1 c0 c1 c2)
    | (go_at_call 164; refine (page_ok _ _ H3.out).mono ?_; rintro e w' ⟨rfl, rfl⟩)
    | (go_at_call 199; refine (join2_nil _ _ (Row.new w1 [_, _] _)).mono ?_; rintro e w' ⟨rfl, rfl⟩)
    | (go_at_call 198; refine (errnoOf_nil _).mono ?_; rintro e w' ⟨rfl, rfl⟩)
    | (go_at_call 37; clear M1; refine (put_any leb HN1.out 2 2 rfl _).mono ?_; rintro e w3 ⟨rfl, ho3⟩; have HO3 : Hid (World.ownsRow _ _ _ _ _ _ _) := owns_later HO1.out ho3.2; have HM3 : Hid (Mp _ _ _ _ _ _) := HM1.out.later ho3.2; have hr3 := own_at ho3; simp only [size_new] at hr3; have HR3 : Hid (BRow _ _ _) := hr3; clear ho3 hr3 HO1 HM1)
    | (at_builtin; clear M2; go_must (refine wpList_append_bytes rfl (.tmp 19) (.tmp 23) rfl w1.heap.size _ 1 _ rfl HO3.out _ 2 2 (putL 2 leb) rfl (putL_length _ _).symm HR3.out (fun h => by cases h) HA2.out.1 HA2.out.2 HM3.out.bel.size ?_); intro v4 w4 hown4 hg4; have hm4 := HM3.out.grown hg4 HO3.out hl1; have d1 : w4.cell? ⟨w.heap.size, 1, none⟩ = some (.int .u64 seq) := hm4.row.cell (i := 1) rfl; have HM4 : Hid (Mp _ _ _ _ _ _) := hm4; have HO4 : Hid (World.ownsRow _ _ _ _ _ _ _) := hown4; clear hown4 hg4 hm4 HM3 HO3 HR3)
    | (go_at_call 37; clear M3; refine (put_any seq HN2.out 8 8 rfl _).mono ?_; rintro e w5 ⟨rfl, ho5⟩; have HO5 : Hid (World.ownsRow _ _ _ _ _ _ _) := owns_later HO4.out ho5.2; have HM5 : Hid (Mp _ _ _ _ _ _) := HM4.out.later ho5.2; have hr5 := own_at ho5; have HR5 : Hid (BRow _ _ _) := hr5; clear ho5 hr5 HO4 HM4)
    | (at_builtin; clear M4; go_must (refine wpList_append_bytes rfl (.tmp 25) (.tmp 28) rfl w1.heap.size _ (1 + 2) _ rfl HO5.out _ 8 8 (putL 8 seq) rfl (putL_length _ _).symm HR5.out (fun h => by cases h) HA8.out.1 HA8.out.2 HM5.out.bel.size ?_); intro v6 w6 hown6 hg6; have hm6 := HM5.out.grown hg6 HO5.out hl1; have d2 : w6.cell? ⟨w.heap.size, 2, none⟩ = some (.int .i64 pages) := hm6.row.cell (i := 2) rfl; have HM6 : Hid (Mp _ _ _ _ _ _) := hm6; have HO6 : Hid (World.ownsRow _ _ _ _ _ _ _) := hown6; clear hown6 hg6 hm6 HM5 HO5 HR5)
    | (go_at_call 37; refine (put_any pages HN3.out 1 1 rfl _).mono ?_; rintro e w7 ⟨rfl, ho7⟩; have HO7 : Hid (World.ownsRow _ _ _ _ _ _ _) := owns_later HO6.out ho7.2; have HM7 : Hid (Mp _ _ _ _ _ _) := HM6.out.later ho7.2; have hr7 := own_at ho7; have HR7 : Hid (BRow _ _ _) := hr7; clear ho7 hr7 HO6 HM6)
    | (at_builtin; go_must (refine wpList_append_bytes rfl (.tmp 30) (.tmp 34) rfl w1.heap.size _ (1 + 2 + 8) _ rfl HO7.out _ 1 1 (putL 1 pages) rfl (putL_length _ _).symm HR7.out (fun h => by cases h) HA1.out.1 HA1.out.2 HM7.out.bel.size ?_); intro v8 w8 hown8 hg8; have hm8 := HM7.out.grown hg8 HO7.out hl1; have HM8 : Hid (Mp _ _ _ _ _ _) := hm8; obtain ⟨a8, c8, rfl, hr8, _⟩ := own_shape (mapL_length leb seq pages).symm (map_row hown8); have HR8 : Hid (BRow _ _ _) := hr8; clear hown8 hg8 hm8 hr8 HM7 HO7 HR7)
    | (go_at_call 200; go_must (refine (image_any a8 c8 12 page (mapL leb seq pages) w8 (mapL_length _ _ _).symm (by decide) (by decide) (mapL_lt _ _ _) HP.out HR8.out).mono ?_); rintro e w9 ⟨g9, rfl, ho9⟩; have HO9 : Hid (Own _ _ _ _) := ho9; clear ho9))
  go_ret2
  exact ⟨g9, rfl, HO9.out.from (Below.after HB1.out HM8.out.bel)⟩
end Go.Proofs.YtkfecngkdlajgaaGreatDoor.Hd
namespace Go.Proofs.YtkfecngkdlajgaaGreatDoor.Hd
open Go.RowKit Go.Extern.Stop Go.Stop Go.Extern M

theorem map_bad (leb seq pages : Int) (w : World) (h : ¬ (lebOk leb ∧ pagesOk pages)) : Calls Tryz.prog 214 #[mapV leb seq pages] w (Wrg 317 w) := by
  by_cases h1 : lebOk leb
  · exact map_bad2 leb seq pages w h1 (by have : ¬ pagesOk pages := fun h2 => h ⟨h1, h2⟩; unfold pagesOk at this; omega)
  · have h1' : leb < 0 ∨ 255 < leb := by unfold lebOk at h1; omega
    by_cases h2 : pagesOk pages
    · exact map_bad1 leb seq pages w h1' h2
    · exact map_bad3 leb seq pages w h1' (by unfold pagesOk at h2; omega)
/-- EINVAL, and nothing. -/
def NoPost (w : World) (e : Ending) (w' : World) : Prop := e = .returned (.tuple #[.slice none 0 0, .int .i64 22]) ∧ Below w.heap.size w w'


set_option maxRecDepth 10000 in
set_option maxHeartbeats 4000000 in
theorem count_no1 (n page : Int) (w : World) (h1 : ¬ countOk n) (h2 : pageOk page) : Calls Tryz.prog 169 #[.int .i64 n, .int .i64 page] w (NoPost w) := by
  have H1 : Hid (¬ countOk n) := h1
  have H2 : Hid (pageOk page) := h2
  clear h1 h2
  go_enter Tryz.func169, Tryz.ntmps169
  go_wp2_with (first
    | (go_at_call 129; refine (count_bad _ _ H1.out).mono ?_; rintro e w1 ⟨b1, rfl, hv1, hb1⟩; have HV1 : Hid (Bad _ _) := hv1; have HB1 : Hid (Below w.heap.size w w1) := hb1; clear hv1 hb1)
    | (go_at_call 164; refine (page_ok _ _ H2.out).mono ?_; rintro e w' ⟨rfl, rfl⟩)
    | (go_at_call 199; refine (join2_bad _ _ _ _ (Row.new w1 [_, _] _) (.inr (HV1.out.later (below_new _ _))) (.inl rfl) (.inl (by simp))).mono ?_; rintro e w3 ⟨b3, rfl, hv3, hb3⟩; have HV3 : Hid (Bad _ _) := hv3; have HB3 : Hid (Below w.heap.size w w3) := Below.after (Below.after HB1.out (below_new _ _)) hb3; clear hv3 hb3)
    | (go_at_call 198; refine (errnoOf_bad HV3.out).mono ?_; rintro e w' ⟨rfl, rfl⟩))
  go_ret2
  exact ⟨rfl, HB3.out⟩

set_option maxRecDepth 10000 in
set_option maxHeartbeats 4000000 in
theorem count_no2 (n page : Int) (w : World) (h1 : countOk n) (h2 : ¬ pageOk page) : Calls Tryz.prog 169 #[.int .i64 n, .int .i64 page] w (NoPost w) := by
  have H1 : Hid (countOk n) := h1
  have H2 : Hid (¬ pageOk page) := h2
  clear h1 h2
  go_enter Tryz.func169, Tryz.ntmps169
  go_wp2_with (first
    | (go_at_call 129; refine (count_ok _ _ H1.out).mono ?_; rintro e w' ⟨rfl, rfl⟩)
    | (go_at_call 164; refine (page_bad _ _ H2.out).mono ?_; rintro e w2 ⟨b2, rfl, hv2, hb2⟩; have HV2 : Hid (Bad _ _) := hv2; have HB2 : Hid (Below w.heap.size w w2) := Below.after (Below.refl _ _) hb2; clear hv2 hb2)
    | (go_at_call 199; refine (join2_bad _ _ _ _ (Row.new w2 [_, _] _) (.inl rfl) (.inr (HV2.out.later (below_new _ _))) (.inr (by simp))).mono ?_; rintro e w3 ⟨b3, rfl, hv3, hb3⟩; have HV3 : Hid (Bad _ _) := hv3; have HB3 : Hid (Below w.heap.size w w3) := Below.after (Below.after HB2.out (below_new _ _)) hb3; clear hv3 hb3)
    | (go_at_call 198; refine (errnoOf_bad HV3.out).mono ?_; rintro e w' ⟨rfl, rfl⟩))
  go_ret2
  exact ⟨rfl, HB3.out⟩

set_option maxRecDepth 10000 in
set_option maxHeartbeats 4000000 in
theorem count_no3 (n page : Int) (w : World) (h1 : ¬ countOk n) (h2 : ¬ pageOk page) : Calls Tryz.prog 169 #[.int .i64 n, .int .i64 page] w (NoPost w) := by
  have H1 : Hid (¬ countOk n) := h1
  have H2 : Hid (¬ pageOk page) := h2
  clear h1 h2
  go_enter Tryz.func169, Tryz.ntmps169
  go_wp2_with (first
    | (go_at_call 129; refine (count_bad _ _ H1.out).mono ?_; rintro e w1 ⟨b1, rfl, hv1, hb1⟩; have HV1 : Hid (Bad _ _) := hv1; have HB1 : Hid (Below w.heap.size w w1) := hb1; clear hv1 hb1)
    | (go_at_call 164; refine (page_bad _ _ H2.out).mono ?_; rintro e w2 ⟨b2, rfl, hv2, hb2⟩; have HV2 : Hid (Bad _ _) := hv2; have HB2 : Hid (Below w.heap.size w w2) := Below.after HB1.out hb2; have HV12 : Hid (Bad w2 _) := HV1.out.later hb2; clear hv2 hb2)
    | (go_at_call 199; refine (join2_bad _ _ _ _ (Row.new w2 [_, _] _) (.inr (HV12.out.later (below_new _ _))) (.inr (HV2.out.later (below_new _ _))) (.inl (by simp))).mono ?_; rintro e w3 ⟨b3, rfl, hv3, hb3⟩; have HV3 : Hid (Bad _ _) := hv3; have HB3 : Hid (Below w.heap.size w w3) := Below.after (Below.after HB2.out (below_new _ _)) hb3; clear hv3 hb3)
    | (go_at_call 198; refine (errnoOf_bad HV3.out).mono ?_; rintro e w' ⟨rfl, rfl⟩))
  go_ret2
  exact ⟨rfl, HB3.out⟩

theorem count_no (n page : Int) (w : World) (h : ¬ (countOk n ∧ pageOk page)) : Calls Tryz.prog 169 #[.int .i64 n, .int .i64 page] w (NoPost w) := by
  by_cases h1 : countOk n
  · exact count_no2 n page w h1 (fun h2 => h ⟨h1, h2⟩)
  · by_cases h2 : pageOk page
    · exact count_no1 n page w h1 h2
    · exact count_no3 n page w h1 h2
end Go.Proofs.YtkfecngkdlajgaaGreatDoor.Hd
