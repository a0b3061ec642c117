/-
  What Count and Mapping of package header answer where a number can't be: EINVAL, and nothing.
-/
import Derived.Test.YtdhbhjfpjmmonaaDoorHImg
namespace Go.Proofs.YtdhbhjfpjmmonaaDoor
open Go.RowKit Go.Extern.Stop Go.Stop Go.Extern M

theorem map_bad (leb seq pages : Int) (w : World) (h : ¬ (lebOk leb ∧ pagesOk pages)) : Calls Tryd.prog 25 #[mapV leb seq pages] w (Wrg 64 w) := by
  by_cases h1 : lebOk leb
  · exact map_bad2 leb seq pages w h1 (by have : ¬ pagesOk pages := fun h2 => h ⟨h1, h2⟩; unfold pagesOk at this; omega)
  · have h1' : leb < 0 ∨ 255 < leb := by unfold lebOk at h1; omega
    by_cases h2 : pagesOk pages
    · exact map_bad1 leb seq pages w h1' h2
    · exact map_bad3 leb seq pages w h1' (by unfold pagesOk at h2; omega)
/-- EINVAL, and nothing. -/
def NoPost (w : World) (e : Ending) (w' : World) : Prop := e = .returned (.tuple #[.slice none 0 0, .int .i64 22]) ∧ Below w.heap.size w w'


set_option maxRecDepth 10000 in
set_option maxHeartbeats 4000000 in
theorem count_no1 (n page : Int) (w : World) (h1 : ¬ countOk n) (h2 : pageOk page) : Calls Tryd.prog 7 #[.int .i64 n, .int .i64 page] w (NoPost w) := by
  have H1 : Hid (¬ countOk n) := h1
  have H2 : Hid (pageOk page) := h2
  clear h1 h2
  go_enter Tryd.func7, Tryd.ntmps7
  go_wp2_with (first
    | (go_at_call 19; refine (count_bad _ _ H1.out).mono ?_; rintro e w1 ⟨b1, rfl, hv1, hb1⟩; have HV1 : Hid (Bad _ _) := hv1; have HB1 : Hid (Below w.heap.size w w1) := hb1; clear hv1 hb1)
    | (go_at_call 20; refine (page_ok _ _ H2.out).mono ?_; rintro e w' ⟨rfl, rfl⟩)
    | (go_at_call 18; refine (join2_bad _ _ _ _ (Row.new w1 [_, _] _) (.inr (HV1.out.later (below_new _ _))) (.inl rfl) (.inl (by simp))).mono ?_; rintro e w3 ⟨b3, rfl, hv3, hb3⟩; have HV3 : Hid (Bad _ _) := hv3; have HB3 : Hid (Below w.heap.size w w3) := Below.after (Below.after HB1.out (below_new _ _)) hb3; clear hv3 hb3)
    | (go_at_call 17; refine (errnoOf_bad HV3.out).mono ?_; rintro e w' ⟨rfl, rfl⟩))
  go_ret2
  exact ⟨rfl, HB3.out⟩

set_option maxRecDepth 10000 in
set_option maxHeartbeats 4000000 in
theorem count_no2 (n page : Int) (w : World) (h1 : countOk n) (h2 : ¬ pageOk page) : Calls Tryd.prog 7 #[.int .i64 n, .int .i64 page] w (NoPost w) := by
  have H1 : Hid (countOk n) := h1
  have H2 : Hid (¬ pageOk page) := h2
  clear h1 h2
  go_enter Tryd.func7, Tryd.ntmps7
  go_wp2_with (first
    | (go_at_call 19; refine (count_ok _ _ H1.out).mono ?_; rintro e w' ⟨rfl, rfl⟩)
    | (go_at_call 20; refine (page_bad _ _ H2.out).mono ?_; rintro e w2 ⟨b2, rfl, hv2, hb2⟩; have HV2 : Hid (Bad _ _) := hv2; have HB2 : Hid (Below w.heap.size w w2) := Below.after (Below.refl _ _) hb2; clear hv2 hb2)
    | (go_at_call 18; refine (join2_bad _ _ _ _ (Row.new w2 [_, _] _) (.inl rfl) (.inr (HV2.out.later (below_new _ _))) (.inr (by simp))).mono ?_; rintro e w3 ⟨b3, rfl, hv3, hb3⟩; have HV3 : Hid (Bad _ _) := hv3; have HB3 : Hid (Below w.heap.size w w3) := Below.after (Below.after HB2.out (below_new _ _)) hb3; clear hv3 hb3)
    | (go_at_call 17; refine (errnoOf_bad HV3.out).mono ?_; rintro e w' ⟨rfl, rfl⟩))
  go_ret2
  exact ⟨rfl, HB3.out⟩

set_option maxRecDepth 10000 in
set_option maxHeartbeats 4000000 in
theorem count_no3 (n page : Int) (w : World) (h1 : ¬ countOk n) (h2 : ¬ pageOk page) : Calls Tryd.prog 7 #[.int .i64 n, .int .i64 page] w (NoPost w) := by
  have H1 : Hid (¬ countOk n) := h1
  have H2 : Hid (¬ pageOk page) := h2
  clear h1 h2
  go_enter Tryd.func7, Tryd.ntmps7
  go_wp2_with (first
    | (go_at_call 19; refine (count_bad _ _ H1.out).mono ?_; rintro e w1 ⟨b1, rfl, hv1, hb1⟩; have HV1 : Hid (Bad _ _) := hv1; have HB1 : Hid (Below w.heap.size w w1) := hb1; clear hv1 hb1)
    | (go_at_call 20; refine (page_bad _ _ H2.out).mono ?_; rintro e w2 ⟨b2, rfl, hv2, hb2⟩; have HV2 : Hid (Bad _ _) := hv2; have HB2 : Hid (Below w.heap.size w w2) := Below.after HB1.out hb2; have HV12 : Hid (Bad w2 _) := HV1.out.later hb2; clear hv2 hb2)
    | (go_at_call 18; refine (join2_bad _ _ _ _ (Row.new w2 [_, _] _) (.inr (HV12.out.later (below_new _ _))) (.inr (HV2.out.later (below_new _ _))) (.inl (by simp))).mono ?_; rintro e w3 ⟨b3, rfl, hv3, hb3⟩; have HV3 : Hid (Bad _ _) := hv3; have HB3 : Hid (Below w.heap.size w w3) := Below.after (Below.after HB2.out (below_new _ _)) hb3; clear hv3 hb3)
    | (go_at_call 17; refine (errnoOf_bad HV3.out).mono ?_; rintro e w' ⟨rfl, rfl⟩))
  go_ret2
  exact ⟨rfl, HB3.out⟩

set_option maxRecDepth 10000 in
set_option maxHeartbeats 4000000 in
theorem map_no1 (leb seq pages page : Int) (w : World) (h1 : ¬ (lebOk leb ∧ pagesOk pages)) (h2 : pageOk page) : Calls Tryd.prog 9 #[mapV leb seq pages, .int .i64 page] w (NoPost w) := by
  have H1 : Hid (¬ (lebOk leb ∧ pagesOk pages)) := h1
  have H2 : Hid (pageOk page) := h2
  clear h1 h2
  have cM := map_bad leb seq pages
  obtain ⟨W, hW⟩ : ∃ W, W = w.alloc (.cells #[.int .i64 leb, .int .u64 seq, .int .i64 pages] 30) := ⟨_, rfl⟩
  have hr : Row W w.heap.size [.int .i64 leb, .int .u64 seq, .int .i64 pages] 30 := by rw [hW]; exact Row.new w [_, _, _] _
  have c0 : W.cell? ⟨w.heap.size, 0, none⟩ = some (.int .i64 leb) := hr.cell (i := 0) rfl
  have c1 : W.cell? ⟨w.heap.size, 1, none⟩ = some (.int .u64 seq) := hr.cell (i := 1) rfl
  have c2 : W.cell? ⟨w.heap.size, 2, none⟩ = some (.int .i64 pages) := hr.cell (i := 2) rfl
  have HB : Hid (Below w.heap.size w W) := by rw [hW]; exact below_new _ _
  clear hr
  unfold mapV at cM ⊢
  go_enter Tryd.func9, Tryd.ntmps9
  go_wp2_with fail
  rw [← hW]
  clear hW
  go_wp2_with (first
    | (go_at_call 25; refine (cM _ H1.out).mono ?_; rintro e w1 ⟨b1, rfl, hv1, hb1⟩; have HV1 : Hid (Bad _ _) := hv1; have HB1 : Hid (Below w.heap.size w w1) := Below.after HB.out hb1; clear hv1 hb1)
    | (go_at_call 20; refine (page_ok _ _ H2.out).mono ?_; rintro e w' ⟨rfl, rfl⟩)
    | (go_at_call 18; refine (join2_bad _ _ _ _ (Row.new w1 [_, _] _) (.inr (HV1.out.later (below_new _ _))) (.inl rfl) (.inl (by simp))).mono ?_; rintro e w3 ⟨b3, rfl, hv3, hb3⟩; have HV3 : Hid (Bad _ _) := hv3; have HB3 : Hid (Below w.heap.size w w3) := Below.after (Below.after HB1.out (below_new _ _)) hb3; clear hv3 hb3)
    | (go_at_call 17; refine (errnoOf_bad HV3.out).mono ?_; rintro e w' ⟨rfl, rfl⟩))
  go_ret2
  exact ⟨rfl, HB3.out⟩

set_option maxRecDepth 10000 in
set_option maxHeartbeats 4000000 in
theorem map_no2 (leb seq pages page : Int) (w : World) (h1 : lebOk leb ∧ pagesOk pages) (h2 : ¬ pageOk page) : Calls Tryd.prog 9 #[mapV leb seq pages, .int .i64 page] w (NoPost w) := by
  have H1 : Hid (lebOk leb ∧ pagesOk pages) := h1
  have H2 : Hid (¬ pageOk page) := h2
  clear h1 h2
  have cM := map_ok leb seq pages
  obtain ⟨W, hW⟩ : ∃ W, W = w.alloc (.cells #[.int .i64 leb, .int .u64 seq, .int .i64 pages] 30) := ⟨_, rfl⟩
  have hr : Row W w.heap.size [.int .i64 leb, .int .u64 seq, .int .i64 pages] 30 := by rw [hW]; exact Row.new w [_, _, _] _
  have c0 : W.cell? ⟨w.heap.size, 0, none⟩ = some (.int .i64 leb) := hr.cell (i := 0) rfl
  have c1 : W.cell? ⟨w.heap.size, 1, none⟩ = some (.int .u64 seq) := hr.cell (i := 1) rfl
  have c2 : W.cell? ⟨w.heap.size, 2, none⟩ = some (.int .i64 pages) := hr.cell (i := 2) rfl
  have HB : Hid (Below w.heap.size w W) := by rw [hW]; exact below_new _ _
  clear hr
  unfold mapV at cM ⊢
  go_enter Tryd.func9, Tryd.ntmps9
  go_wp2_with fail
  rw [← hW]
  clear hW
  go_wp2_with (first
    | (go_at_call 25; refine (cM _ H1.out.1 H1.out.2).mono ?_; rintro e w1 ⟨rfl, hb1⟩; have HB1 : Hid (Below w.heap.size w w1) := Below.after HB.out hb1; clear hb1)
    | (go_at_call 20; refine (page_bad _ _ H2.out).mono ?_; rintro e w2 ⟨b2, rfl, hv2, hb2⟩; have HV2 : Hid (Bad _ _) := hv2; have HB2 : Hid (Below w.heap.size w w2) := Below.after HB1.out hb2; clear hv2 hb2)
    | (go_at_call 18; refine (join2_bad _ _ _ _ (Row.new w2 [_, _] _) (.inl rfl) (.inr (HV2.out.later (below_new _ _))) (.inr (by simp))).mono ?_; rintro e w3 ⟨b3, rfl, hv3, hb3⟩; have HV3 : Hid (Bad _ _) := hv3; have HB3 : Hid (Below w.heap.size w w3) := Below.after (Below.after HB2.out (below_new _ _)) hb3; clear hv3 hb3)
    | (go_at_call 17; refine (errnoOf_bad HV3.out).mono ?_; rintro e w' ⟨rfl, rfl⟩))
  go_ret2
  exact ⟨rfl, HB3.out⟩

set_option maxRecDepth 10000 in
set_option maxHeartbeats 4000000 in
theorem map_no3 (leb seq pages page : Int) (w : World) (h1 : ¬ (lebOk leb ∧ pagesOk pages)) (h2 : ¬ pageOk page) : Calls Tryd.prog 9 #[mapV leb seq pages, .int .i64 page] w (NoPost w) := by
  have H1 : Hid (¬ (lebOk leb ∧ pagesOk pages)) := h1
  have H2 : Hid (¬ pageOk page) := h2
  clear h1 h2
  have cM := map_bad leb seq pages
  obtain ⟨W, hW⟩ : ∃ W, W = w.alloc (.cells #[.int .i64 leb, .int .u64 seq, .int .i64 pages] 30) := ⟨_, rfl⟩
  have hr : Row W w.heap.size [.int .i64 leb, .int .u64 seq, .int .i64 pages] 30 := by rw [hW]; exact Row.new w [_, _, _] _
  have c0 : W.cell? ⟨w.heap.size, 0, none⟩ = some (.int .i64 leb) := hr.cell (i := 0) rfl
  have c1 : W.cell? ⟨w.heap.size, 1, none⟩ = some (.int .u64 seq) := hr.cell (i := 1) rfl
  have c2 : W.cell? ⟨w.heap.size, 2, none⟩ = some (.int .i64 pages) := hr.cell (i := 2) rfl
  have HB : Hid (Below w.heap.size w W) := by rw [hW]; exact below_new _ _
  clear hr
  unfold mapV at cM ⊢
  go_enter Tryd.func9, Tryd.ntmps9
  go_wp2_with fail
  rw [← hW]
  clear hW
  go_wp2_with (first
    | (go_at_call 25; refine (cM _ H1.out).mono ?_; rintro e w1 ⟨b1, rfl, hv1, hb1⟩; have HV1 : Hid (Bad _ _) := hv1; have HB1 : Hid (Below w.heap.size w w1) := Below.after HB.out hb1; clear hv1 hb1)
    | (go_at_call 20; refine (page_bad _ _ H2.out).mono ?_; rintro e w2 ⟨b2, rfl, hv2, hb2⟩; have HV2 : Hid (Bad _ _) := hv2; have HB2 : Hid (Below w.heap.size w w2) := Below.after HB1.out hb2; have HV12 : Hid (Bad w2 _) := HV1.out.later hb2; clear hv2 hb2)
    | (go_at_call 18; refine (join2_bad _ _ _ _ (Row.new w2 [_, _] _) (.inr (HV12.out.later (below_new _ _))) (.inr (HV2.out.later (below_new _ _))) (.inl (by simp))).mono ?_; rintro e w3 ⟨b3, rfl, hv3, hb3⟩; have HV3 : Hid (Bad _ _) := hv3; have HB3 : Hid (Below w.heap.size w w3) := Below.after (Below.after HB2.out (below_new _ _)) hb3; clear hv3 hb3)
    | (go_at_call 17; refine (errnoOf_bad HV3.out).mono ?_; rintro e w' ⟨rfl, rfl⟩))
  go_ret2
  exact ⟨rfl, HB3.out⟩

theorem count_no (n page : Int) (w : World) (h : ¬ (countOk n ∧ pageOk page)) : Calls Tryd.prog 7 #[.int .i64 n, .int .i64 page] w (NoPost w) := by
  by_cases h1 : countOk n
  · exact count_no2 n page w h1 (fun h2 => h ⟨h1, h2⟩)
  · by_cases h2 : pageOk page
    · exact count_no1 n page w h1 h2
    · exact count_no3 n page w h1 h2
theorem mapping_no (leb seq pages page : Int) (w : World) (h : ¬ ((lebOk leb ∧ pagesOk pages) ∧ pageOk page)) : Calls Tryd.prog 9 #[mapV leb seq pages, .int .i64 page] w (NoPost w) := by
  by_cases h1 : lebOk leb ∧ pagesOk pages
  · exact map_no2 leb seq pages page w h1 (fun h2 => h ⟨h1, h2⟩)
  · by_cases h2 : pageOk page
    · exact map_no1 leb seq pages page w h1 h2
    · exact map_no3 leb seq pages page w h1 h2
end Go.Proofs.YtdhbhjfpjmmonaaDoor
