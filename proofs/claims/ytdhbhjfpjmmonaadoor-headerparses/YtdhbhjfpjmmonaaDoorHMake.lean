/-
  The bounds' checks, and what Count and Mapping of package header answer: a page's image in new memory, or EINVAL.
-/
import Derived.Test.YtdhbhjfpjmmonaaDoorHJoin
import Derived.Test.YtdhbhjfpjmmonaaDoorRefB
import Derived.Deep.RegionHeld3
namespace Go.Proofs.YtdhbhjfpjmmonaaDoor
open Go.RowKit Go.Extern.Stop Go.Stop Go.Extern M

/-- An error of the type t in which errors.Is finds EINVAL. -/
def Wrg (t : TypeId) (w : World) (e : Ending) (w' : World) : Prop :=
  ∃ b, e = .returned (.iface t (.pointer (some ⟨b, 0, none⟩))) ∧ Bad w' (.iface t (.pointer (some ⟨b, 0, none⟩))) ∧ Below w.heap.size w w'

theorem join2_nil (g : Nat) (w : World) (s : Row w g [.nilIface, .nilIface] 46) :
    Calls Tryd.prog 18 #[.slice (some ⟨g, 0, none⟩) 2 2] w fun e w' => e = .returned .nilIface ∧ w = w' :=
  (join_any g 2 2 _ w s rfl (by decide) (by intro v hv; simp at hv; exact .inl hv)).mono fun e w' h => h.1 rfl
theorem Bad.nn {w : World} {v : Value} (h : Bad w v) : nn v = true := by cases h <;> rfl
theorem join2_bad (g : Nat) (v1 v2 : Value) (w : World) (s : Row w g [v1, v2] 46) (h1 : v1 = .nilIface ∨ Bad w v1) (h2 : v2 = .nilIface ∨ Bad w v2) (hne : v1 ≠ .nilIface ∨ v2 ≠ .nilIface) :
    Calls Tryd.prog 18 #[.slice (some ⟨g, 0, none⟩) 2 2] w (Wrg 64 w) := by
  have hsh : ∀ v ∈ [v1, v2], v = .nilIface ∨ ∃ t x, v = .iface t x := by
    intro v hv
    simp at hv
    rcases hv with rfl | rfl
    · exact h1.imp id fun h => by obtain ⟨t, x, e⟩ := h.shape; exact ⟨t, _, e⟩
    · exact h2.imp id fun h => by obtain ⟨t, x, e⟩ := h.shape; exact ⟨t, _, e⟩
  obtain ⟨v, rest, hf, hv, hr⟩ : ∃ v rest, [v1, v2].filter nn = v :: rest ∧ Bad w v ∧ rest.length ≤ 1 := by
    rcases h1 with rfl | h1
    · rcases h2 with rfl | h2
      · rcases hne with h | h <;> exact absurd rfl h
      · exact ⟨v2, [], by have h0 : nn .nilIface = false := rfl; simp [h2.nn, h0], h2, by simp⟩
    · exact ⟨v1, [v2].filter nn, by simp [List.filter_cons, h1.nn], h1, List.length_filter_le nn [v2]⟩
  refine (join_any g 2 2 _ w s rfl (by decide) hsh).mono fun e w' h => ?_
  obtain ⟨v', rfl, b, g', cap, rfl, hr1, hr2, hb⟩ := h.2 (by rw [hf]; simp)
  rw [hf] at hr1 hr2
  have hrow : Row w' g' [v] 46 := by
    obtain ⟨r, hr2⟩ := hr2
    exact ⟨rest ++ r, by simpa using hr2⟩
  exact ⟨b, rfl, .join hr1 hrow (by simp) (by simp; omega) (hv.later hb), hb⟩

set_option maxRecDepth 10000 in
set_option maxHeartbeats 4000000 in
theorem within_ok (what : ByteArray) (n least most : Int) (w : World) (h1 : least ≤ n) (h2 : n ≤ most) :
    Calls Tryd.prog 33 #[.string what, .int .i64 n, .int .i64 least, .int .i64 most] w fun e w' => e = .returned .nilIface ∧ w = w' := by
  go_enter Tryd.func33, Tryd.ntmps33
  go_wp2
  go_ret
  exact ⟨rfl, rfl⟩
theorem wrg_new (w : World) (what : ByteArray) : Wrg 73 w (.returned (.iface 73 (.pointer (some ⟨w.heap.size, 0, none⟩)))) (w.alloc (.cells #[.string what, .iface 26 (.int .i64 22)] 75)) :=
  ⟨w.heap.size, rfl, .wrong (Row.new w [_, _] _), below_new _ _⟩
set_option maxRecDepth 10000 in
set_option maxHeartbeats 4000000 in
theorem within_bad (what : ByteArray) (n least most : Int) (w : World) (h : n < least ∨ most < n) :
    Calls Tryd.prog 33 #[.string what, .int .i64 n, .int .i64 least, .int .i64 most] w (Wrg 73 w) := by
  by_cases h1 : n < least
  · clear h
    go_enter Tryd.func33, Tryd.ntmps33
    go_wp2
    go_ret
    exact wrg_new w what
  · have h2 : most < n := by omega
    clear h
    go_enter Tryd.func33, Tryd.ntmps33
    go_wp2
    go_ret
    exact wrg_new w what
/-- The page's size may be. -/
def pageOk (n : Int) : Prop := 64 ≤ n ∧ n ≤ 512
def countOk (n : Int) : Prop := 0 ≤ n ∧ n ≤ 2147483647
def lebOk (n : Int) : Prop := 0 ≤ n ∧ n ≤ 255
def pagesOk (n : Int) : Prop := 0 ≤ n ∧ n ≤ 64

set_option maxRecDepth 10000 in
set_option maxHeartbeats 4000000 in
theorem page_ok (n : Int) (w : World) (h : pageOk n) : Calls Tryd.prog 20 #[.int .i64 n] w fun e w' => e = .returned .nilIface ∧ w = w' := by
  have H : Hid (pageOk n) := h
  clear h
  go_enter Tryd.func20, Tryd.ntmps20
  go_wp2_with (go_at_call 33; refine (within_ok _ _ _ _ _ H.out.1 H.out.2).mono ?_; rintro e w' ⟨rfl, rfl⟩)
  go_ret
  exact ⟨rfl, rfl⟩
set_option maxRecDepth 10000 in
set_option maxHeartbeats 4000000 in
theorem page_bad (n : Int) (w : World) (h : ¬ pageOk n) : Calls Tryd.prog 20 #[.int .i64 n] w (Wrg 73 w) := by
  have H : Hid (n < 64 ∨ 512 < n) := by show _ ∨ _; unfold pageOk at h; omega
  clear h
  go_enter Tryd.func20, Tryd.ntmps20
  go_wp2_with (go_at_call 33; refine (within_bad _ _ _ _ _ H.out).mono ?_; rintro e w' ⟨b, rfl, hb⟩)
  go_ret
  exact ⟨b, rfl, hb⟩
set_option maxRecDepth 10000 in
set_option maxHeartbeats 4000000 in
theorem count_ok (n : Int) (w : World) (h : countOk n) : Calls Tryd.prog 19 #[.int .i64 n] w fun e w' => e = .returned .nilIface ∧ w = w' := by
  have H : Hid (countOk n) := h
  clear h
  go_enter Tryd.func19, Tryd.ntmps19
  go_wp2_with (go_at_call 33; refine (within_ok _ _ _ _ _ H.out.1 H.out.2).mono ?_; rintro e w' ⟨rfl, rfl⟩)
  go_ret
  exact ⟨rfl, rfl⟩
set_option maxRecDepth 10000 in
set_option maxHeartbeats 4000000 in
theorem count_bad (n : Int) (w : World) (h : ¬ countOk n) : Calls Tryd.prog 19 #[.int .i64 n] w (Wrg 73 w) := by
  have H : Hid (n < 0 ∨ 2147483647 < n) := by show _ ∨ _; unfold countOk at h; omega
  clear h
  go_enter Tryd.func19, Tryd.ntmps19
  go_wp2_with (go_at_call 33; refine (within_bad _ _ _ _ _ H.out).mono ?_; rintro e w' ⟨b, rfl, hb⟩)
  go_ret
  exact ⟨b, rfl, hb⟩

/-- A Map's fields. -/
def mapV (leb seq pages : Int) : Value := .agg #[.int .i64 leb, .int .u64 seq, .int .i64 pages]
set_option maxRecDepth 10000 in
set_option maxHeartbeats 4000000 in
theorem map_ok (leb seq pages : Int) (w : World) (h1 : lebOk leb) (h2 : pagesOk pages) : Calls Tryd.prog 25 #[mapV leb seq pages] w fun e w' => e = .returned .nilIface ∧ Below w.heap.size w w' := by
  have H1 : Hid (lebOk leb) := h1
  have H2 : Hid (pagesOk pages) := h2
  clear h1 h2
  have M1 : Hid True := trivial
  obtain ⟨W, hW⟩ : ∃ W, W = w.alloc (.cells #[.int .i64 leb, .int .u64 seq, .int .i64 pages] 30) := ⟨_, rfl⟩
  have hr : Row W w.heap.size [.int .i64 leb, .int .u64 seq, .int .i64 pages] 30 := by rw [hW]; exact Row.new w [_, _, _] _
  have c0 : W.cell? ⟨w.heap.size, 0, none⟩ = some (.int .i64 leb) := hr.cell (i := 0) rfl
  have c2 : W.cell? ⟨w.heap.size, 2, none⟩ = some (.int .i64 pages) := hr.cell (i := 2) rfl
  have hlt := hr.lt
  have HB : Hid (Below w.heap.size w W) := by rw [hW]; exact below_new _ _
  clear hr
  unfold mapV
  go_enter Tryd.func25, Tryd.ntmps25
  go_wp2_with fail
  rw [← hW]
  clear hW
  go_region_held3 (fun w' => w'.cell? ⟨w.heap.size, 0, none⟩ = some (.int .i64 leb) ∧ w'.cell? ⟨w.heap.size, 2, none⟩ = some (.int .i64 pages)) (first | assumption | go_keep)
    (first
    | (go_at_call 33; clear M1; refine (within_ok _ _ _ _ _ H1.out.1 H1.out.2).mono ?_; rintro e w' ⟨rfl, rfl⟩)
    | (go_at_call 33; refine (within_ok _ _ _ _ _ H2.out.1 H2.out.2).mono ?_; rintro e w' ⟨rfl, rfl⟩)
    | (go_at_call 18; refine (join2_nil _ _ (Row.new W [_, _] _).drew).mono ?_; rintro e w' ⟨rfl, rfl⟩))
  all_goals go_wp2
  all_goals go_ret
  all_goals exact ⟨rfl, Below.after (Below.after HB.out (below_new _ _)) (Below.refl _ _).drew⟩
theorem Bad.drew {w : World} {v : Value} (h : Bad w v) : Bad w.drew v := h.later (Below.refl _ _).drew
theorem below_drew (w : World) : Below w.heap.size w w.drew := (Below.refl _ _).drew

set_option maxRecDepth 10000 in
set_option maxHeartbeats 4000000 in
theorem map_bad1 (leb seq pages : Int) (w : World) (h1 : leb < 0 ∨ 255 < leb) (h2 : pagesOk pages) : Calls Tryd.prog 25 #[mapV leb seq pages] w (Wrg 64 w) := by
  have H1 : Hid (leb < 0 ∨ 255 < leb) := h1
  have H2 : Hid (pagesOk pages) := h2
  clear h1 h2
  have M1 : Hid True := trivial
  obtain ⟨W, hW⟩ : ∃ W, W = w.alloc (.cells #[.int .i64 leb, .int .u64 seq, .int .i64 pages] 30) := ⟨_, rfl⟩
  have hr : Row W w.heap.size [.int .i64 leb, .int .u64 seq, .int .i64 pages] 30 := by rw [hW]; exact Row.new w [_, _, _] _
  have c0 : W.cell? ⟨w.heap.size, 0, none⟩ = some (.int .i64 leb) := hr.cell (i := 0) rfl
  have c2 : W.cell? ⟨w.heap.size, 2, none⟩ = some (.int .i64 pages) := hr.cell (i := 2) rfl
  have hlt := hr.lt
  have HB : Hid (Below w.heap.size w W) := by rw [hW]; exact below_new _ _
  have HR : Hid (Row W w.heap.size [.int .i64 leb, .int .u64 seq, .int .i64 pages] 30) := hr
  clear hr
  unfold mapV
  go_enter Tryd.func25, Tryd.ntmps25
  go_wp2_with fail
  rw [← hW]
  clear hW
  go_region_held3 (fun w' => w'.cell? ⟨w.heap.size, 0, none⟩ = some (.int .i64 leb) ∧ w'.cell? ⟨w.heap.size, 2, none⟩ = some (.int .i64 pages)) (first | assumption | go_keep)
    (first
    | (go_at_call 33; clear M1; refine (within_bad _ _ _ _ _ H1.out).mono ?_; rintro e w1 ⟨b1, rfl, hv1, hb1⟩; have hr1 := HR.out.drew.later hb1; have hS1 : w1.cell? ⟨w.heap.size, 0, none⟩ = some (.int .i64 leb) ∧ w1.cell? ⟨w.heap.size, 2, none⟩ = some (.int .i64 pages) := ⟨hr1.cell (i := 0) rfl, hr1.cell (i := 2) rfl⟩; have HB1 : Hid (Below w.heap.size w w1) := Below.after (Below.after HB.out (below_drew _)) hb1; have HV1 : Hid (Bad _ _) := hv1; have HR1 : Hid (Row _ _ _ _) := hr1; clear hb1 hv1 hr1)
    | (go_at_call 33; refine (within_ok _ _ _ _ _ H2.out.1 H2.out.2).mono ?_; rintro e w' ⟨rfl, rfl⟩)
    | (go_at_call 18; refine (join2_bad _ _ _ _ (Row.new w1 [_, _] _) (.inr (HV1.out.later (below_new _ _))) (.inl rfl) (.inl (by simp))).mono ?_; rintro e w3 ⟨b3, rfl, hv3, hb3⟩; have hr3 := (HR1.out.alloc _).later hb3; have hS3 : w3.cell? ⟨w.heap.size, 0, none⟩ = some (.int .i64 leb) ∧ w3.cell? ⟨w.heap.size, 2, none⟩ = some (.int .i64 pages) := ⟨hr3.cell (i := 0) rfl, hr3.cell (i := 2) rfl⟩; clear hr3; have HV3 : Hid (Bad _ _) := hv3; have HB3 : Hid (Below _ _ _) := hb3; clear hv3 hb3))
  all_goals go_wp2
  all_goals go_ret
  all_goals exact ⟨b3, rfl, HV3.out, Below.after (Below.after HB1.out (below_new _ _)) HB3.out⟩

set_option maxRecDepth 10000 in
set_option maxHeartbeats 4000000 in
theorem map_bad2 (leb seq pages : Int) (w : World) (h1 : lebOk leb) (h2 : pages < 0 ∨ 64 < pages) : Calls Tryd.prog 25 #[mapV leb seq pages] w (Wrg 64 w) := by
  have H1 : Hid (lebOk leb) := h1
  have H2 : Hid (pages < 0 ∨ 64 < pages) := h2
  clear h1 h2
  have M1 : Hid True := trivial
  obtain ⟨W, hW⟩ : ∃ W, W = w.alloc (.cells #[.int .i64 leb, .int .u64 seq, .int .i64 pages] 30) := ⟨_, rfl⟩
  have hr : Row W w.heap.size [.int .i64 leb, .int .u64 seq, .int .i64 pages] 30 := by rw [hW]; exact Row.new w [_, _, _] _
  have c0 : W.cell? ⟨w.heap.size, 0, none⟩ = some (.int .i64 leb) := hr.cell (i := 0) rfl
  have c2 : W.cell? ⟨w.heap.size, 2, none⟩ = some (.int .i64 pages) := hr.cell (i := 2) rfl
  have hlt := hr.lt
  have HB : Hid (Below w.heap.size w W) := by rw [hW]; exact below_new _ _
  have HR : Hid (Row W w.heap.size [.int .i64 leb, .int .u64 seq, .int .i64 pages] 30) := hr
  clear hr
  unfold mapV
  go_enter Tryd.func25, Tryd.ntmps25
  go_wp2_with fail
  rw [← hW]
  clear hW
  go_region_held3 (fun w' => w'.cell? ⟨w.heap.size, 0, none⟩ = some (.int .i64 leb) ∧ w'.cell? ⟨w.heap.size, 2, none⟩ = some (.int .i64 pages)) (first | assumption | go_keep)
    (first
    | (go_at_call 33; clear M1; refine (within_ok _ _ _ _ _ H1.out.1 H1.out.2).mono ?_; rintro e w' ⟨rfl, rfl⟩)
    | (go_at_call 33; refine (within_bad _ _ _ _ _ H2.out).mono ?_; rintro e w2 ⟨b2, rfl, hv2, hb2⟩; have hr2 := HR.out.drew.later hb2; have hS2 : w2.cell? ⟨w.heap.size, 0, none⟩ = some (.int .i64 leb) ∧ w2.cell? ⟨w.heap.size, 2, none⟩ = some (.int .i64 pages) := ⟨hr2.cell (i := 0) rfl, hr2.cell (i := 2) rfl⟩; have HB2 : Hid (Below w.heap.size w w2) := Below.after (Below.after HB.out (below_drew _)) hb2; have HV2 : Hid (Bad _ _) := hv2; have HR2 : Hid (Row _ _ _ _) := hr2; clear hb2 hv2 hr2)
    | (go_at_call 18; refine (join2_bad _ _ _ _ (Row.new w2 [_, _] _) (.inl rfl) (.inr (HV2.out.later (below_new _ _))) (.inr (by simp))).mono ?_; rintro e w3 ⟨b3, rfl, hv3, hb3⟩; have hr3 := (HR2.out.alloc _).later hb3; have hS3 : w3.cell? ⟨w.heap.size, 0, none⟩ = some (.int .i64 leb) ∧ w3.cell? ⟨w.heap.size, 2, none⟩ = some (.int .i64 pages) := ⟨hr3.cell (i := 0) rfl, hr3.cell (i := 2) rfl⟩; clear hr3; have HV3 : Hid (Bad _ _) := hv3; have HB3 : Hid (Below _ _ _) := hb3; clear hv3 hb3))
  all_goals go_wp2
  all_goals go_ret
  all_goals exact ⟨b3, rfl, HV3.out, Below.after (Below.after HB2.out (below_new _ _)) HB3.out⟩

set_option maxRecDepth 10000 in
set_option maxHeartbeats 4000000 in
theorem map_bad3 (leb seq pages : Int) (w : World) (h1 : leb < 0 ∨ 255 < leb) (h2 : pages < 0 ∨ 64 < pages) : Calls Tryd.prog 25 #[mapV leb seq pages] w (Wrg 64 w) := by
  have H1 : Hid (leb < 0 ∨ 255 < leb) := h1
  have H2 : Hid (pages < 0 ∨ 64 < pages) := h2
  clear h1 h2
  have M1 : Hid True := trivial
  obtain ⟨W, hW⟩ : ∃ W, W = w.alloc (.cells #[.int .i64 leb, .int .u64 seq, .int .i64 pages] 30) := ⟨_, rfl⟩
  have hr : Row W w.heap.size [.int .i64 leb, .int .u64 seq, .int .i64 pages] 30 := by rw [hW]; exact Row.new w [_, _, _] _
  have c0 : W.cell? ⟨w.heap.size, 0, none⟩ = some (.int .i64 leb) := hr.cell (i := 0) rfl
  have c2 : W.cell? ⟨w.heap.size, 2, none⟩ = some (.int .i64 pages) := hr.cell (i := 2) rfl
  have hlt := hr.lt
  have HB : Hid (Below w.heap.size w W) := by rw [hW]; exact below_new _ _
  have HR : Hid (Row W w.heap.size [.int .i64 leb, .int .u64 seq, .int .i64 pages] 30) := hr
  clear hr
  unfold mapV
  go_enter Tryd.func25, Tryd.ntmps25
  go_wp2_with fail
  rw [← hW]
  clear hW
  go_region_held3 (fun w' => w'.cell? ⟨w.heap.size, 0, none⟩ = some (.int .i64 leb) ∧ w'.cell? ⟨w.heap.size, 2, none⟩ = some (.int .i64 pages)) (first | assumption | go_keep)
    (first
    | (go_at_call 33; clear M1; refine (within_bad _ _ _ _ _ H1.out).mono ?_; rintro e w1 ⟨b1, rfl, hv1, hb1⟩; have hr1 := HR.out.drew.later hb1; have hS1 : w1.cell? ⟨w.heap.size, 0, none⟩ = some (.int .i64 leb) ∧ w1.cell? ⟨w.heap.size, 2, none⟩ = some (.int .i64 pages) := ⟨hr1.cell (i := 0) rfl, hr1.cell (i := 2) rfl⟩; have HB1 : Hid (Below w.heap.size w w1) := Below.after (Below.after HB.out (below_drew _)) hb1; have HV1 : Hid (Bad _ _) := hv1; have HR1 : Hid (Row _ _ _ _) := hr1; clear hb1 hv1 hr1)
    | (go_at_call 33; refine (within_bad _ _ _ _ _ H2.out).mono ?_; rintro e w2 ⟨b2, rfl, hv2, hb2⟩; have hr2 := HR1.out.later hb2; have hS2 : w2.cell? ⟨w.heap.size, 0, none⟩ = some (.int .i64 leb) ∧ w2.cell? ⟨w.heap.size, 2, none⟩ = some (.int .i64 pages) := ⟨hr2.cell (i := 0) rfl, hr2.cell (i := 2) rfl⟩; have HB2 : Hid (Below w.heap.size w w2) := Below.after HB1.out hb2; have HV2 : Hid (Bad _ _) := hv2; have HV12 : Hid (Bad w2 _) := HV1.out.later hb2; have HR2 : Hid (Row _ _ _ _) := hr2; clear hb2 hv2 hr2)
    | (go_at_call 18; refine (join2_bad _ _ _ _ (Row.new w2 [_, _] _) (.inr (HV12.out.later (below_new _ _))) (.inr (HV2.out.later (below_new _ _))) (.inl (by simp))).mono ?_; rintro e w3 ⟨b3, rfl, hv3, hb3⟩; have hr3 := (HR2.out.alloc _).later hb3; have hS3 : w3.cell? ⟨w.heap.size, 0, none⟩ = some (.int .i64 leb) ∧ w3.cell? ⟨w.heap.size, 2, none⟩ = some (.int .i64 pages) := ⟨hr3.cell (i := 0) rfl, hr3.cell (i := 2) rfl⟩; clear hr3; have HV3 : Hid (Bad _ _) := hv3; have HB3 : Hid (Below _ _ _) := hb3; clear hv3 hb3))
  all_goals go_wp2
  all_goals go_ret
  all_goals exact ⟨b3, rfl, HV3.out, Below.after (Below.after HB2.out (below_new _ _)) HB3.out⟩
end Go.Proofs.YtdhbhjfpjmmonaaDoor
