/-
  The document's Open of pages.
-/
import Derived.Test.YteodcjbbkekidaaGreatDoorQW
import Derived.Test.YteodcjbbkekidaaGreatDoorGD
import Derived.Test.YteodcjbbkekidaaGreatDoorKH
namespace Go.Proofs.YteodcjbbkekidaaGreatDoor
open Go.RowKit Go.Extern.Stop Go.Stop Go.Extern
set_option maxRecDepth 10000

theorem dblank_at (a : Option Addr) (cap n : Nat) (l : List Nat) (w : World) (R : Bool) (hn : n = l.length) (hR : R = blk l) (hl : l.length ≤ maxLen) (hr : Hd.BRow w a l) :
    Calls Tryz.prog 40 #[.slice a n cap] w fun e w' => e = .returned (.bool R) ∧ w = w' := by
  subst hn hR
  exact Hd.ref_blank a cap l w hl hr
set_option maxHeartbeats 1000000 in
theorem dopen_none (page pages : Nat) (a : Option Addr) (cap : Nat) (w : World) (hp : 2 ≤ page ∧ page ≤ 512) (hs : pages ≤ 64) : Calls Tryz.prog 14 #[.slice a 0 cap, .bool false, .int .i64 (page : Nat), .int .i64 (pages : Nat)] w fun e w' => ∃ d, e = .returned (.pointer (some ⟨d.p, 0, none⟩)) ∧ OpD w w' page pages [] d := by
  obtain ⟨W, hW⟩ : ∃ W, W = w.alloc (.cells #[.int .i64 (page : Nat), .int .i64 (pages : Nat), .slice none 0 0, .int .i64 0, .bool false] 92) := ⟨_, rfl⟩
  have hr : Row W w.heap.size [.int .i64 (page : Nat), .int .i64 (pages : Nat), .slice none 0 0, .int .i64 0, .bool false] 92 := by rw [hW]; exact Row.new w [_, _, _, _, _] _
  have hb : Below w.heap.size w W := by rw [hW]; exact below_new w _
  have c3 : W.cell? ⟨w.heap.size, 3, none⟩ = some (.int .i64 0) := hr.cell (i := 3) rfl
  have c4 : W.cell? ⟨w.heap.size, 4, none⟩ = some (.bool false) := hr.cell (i := 4) rfl
  have fz : W.frozen? ⟨w.heap.size, 4, none⟩ = false := hr.frozen 4
  have HF : Hid (∀ X, X = W.setCell ⟨w.heap.size, 4, none⟩ (.bool false) → DAt w.heap.size X ⟨w.heap.size, page, pages, .slice none 0 0, [], 0, false, fun _ => False⟩ ∧ Below w.heap.size w X) := fun X hX => by
    subst hX
    refine ⟨⟨Nat.le_refl _, hr.set (i := 4) _ (by simp), ⟨[], rfl, ⟨rfl, .inl ⟨rfl, rfl⟩⟩, by simp, by simp⟩, hp, hs, Nat.zero_le _, Nat.zero_le _⟩, ?_⟩
    exact (Kept.setNew (S := fun _ => False) (.of_below hb) (p := ⟨w.heap.size, 4, none⟩) (Nat.le_refl _) _).below (Nat.le_refl _) (fun _ h => h.elim)
  clear hr hb hp hs
  go_enter Tryz.func14, Tryz.ntmps14
  go_wp2_with fail
  rw [← hW]
  clear hW
  go_loopg [10, 11] 0 (fun _ s10 s11 wr => s10 = .slice none 0 0 ∧ s11 = .int .i64 0 ∧ wr = W)
  case atStart => exact ⟨rfl, rfl, rfl⟩
  case round =>
    obtain ⟨rfl, rfl, rfl⟩ := hrel
    go_wp2_with fail
    go_loopg [] 0 (fun _ wv => wv = wr)
    case atStart => rfl
    case round =>
      subst hrel
      go_wp2_with fail
      go_ret
      have hq := HF.out _ rfl
      exact ⟨⟨w.heap.size, page, pages, .slice none 0 0, [], 0, false, fun _ => False⟩, rfl, rfl, rfl, rfl, rfl, rfl, hq.1, hq.2⟩
/-- The pages that were read, one behind the other. -/
structure BSo (base : Nat) (W wr : World) (v : Value) (l : List Nat) : Prop where
  own : wr.ownsRow base 5 1 v l.length (l.map u8v)
  bel : Below base W wr
set_option maxRecDepth 100000 in
set_option maxHeartbeats 8000000 in
theorem dopen_any (page pages : Nat) (w : World) (a : Option Addr) (cap n : Nat) (L : List (List Nat)) (hn : n = L.length) (hL : PDt (fun _ => False) w a L) (hl : ∀ x ∈ L, x.length = page) (hc : n ≤ pages) (hp : 2 ≤ page ∧ page ≤ 512) (hs : pages ≤ 64) :
    Calls Tryz.prog 14 #[.slice a n cap, .bool false, .int .i64 (page : Nat), .int .i64 (pages : Nat)] w fun e w' => ∃ d, e = .returned (.pointer (some ⟨d.p, 0, none⟩)) ∧ OpD w w' page pages L.flatten d := by
  by_cases hn0 : L = []
  · subst hn0
    subst hn
    exact dopen_none page pages a cap w hp hs
  have hn1 : 1 ≤ n := by
    rcases L with _ | ⟨x, L⟩
    · exact absurd rfl hn0
    · rw [hn]; simp
  obtain ⟨bb, off, rfl, hcs⟩ : ∃ bb off, a = some ⟨bb, off, none⟩ ∧ ∀ (i : Nat) (d : List Nat), L[i]? = some d → ∃ ai ki, w.cell? ⟨bb, off + i, none⟩ = some (.slice ai d.length ki) ∧ Dt (fun _ => False) w ai d := by
    rcases hL with e | ⟨bb, off, e, _, hc⟩
    · exact absurd e hn0
    · exact ⟨bb, off, e, hc⟩
  obtain ⟨W, hW⟩ : ∃ W, W = w.alloc (.cells #[.int .i64 (page : Nat), .int .i64 (pages : Nat), .slice none 0 0, .int .i64 0, .bool false] 92) := ⟨_, rfl⟩
  have hr : Row W w.heap.size [.int .i64 (page : Nat), .int .i64 (pages : Nat), .slice none 0 0, .int .i64 0, .bool false] 92 := by rw [hW]; exact Row.new w [_, _, _, _, _] _
  have hb : Below w.heap.size w W := by rw [hW]; exact below_new w _
  have hWs : w.heap.size + 1 = W.heap.size := by rw [hW]; simp
  have hlt : ∀ x ∈ L.flatten, x < 256 := fun x hx => by
    obtain ⟨d, hd, hxd⟩ := List.mem_flatten.1 hx
    obtain ⟨i, hi⟩ := List.mem_iff_getElem?.1 hd
    obtain ⟨ai, ki, _, h2⟩ := hcs i d hi
    exact h2.lt x hxd
  have hfl : ∀ k, k ≤ n → (L.take k).flatten.length = k * page := fun k hk => by
    have : ∀ (M : List (List Nat)), (∀ x ∈ M, x.length = page) → M.flatten.length = M.length * page := by
      intro M
      induction M with
      | nil => intro _; simp
      | cons x M ih =>
        intro h
        rw [List.flatten_cons, List.length_append, ih (fun y hy => h y (List.mem_cons_of_mem _ hy)), h x List.mem_cons_self, List.length_cons, Nat.add_mul]
        omega
    rw [this _ (fun x hx => hl x (List.mem_of_mem_take hx)), List.length_take]
    rw [Nat.min_eq_left (by omega)]
  have HFl := hidW hfl
  have HGe : Hid (DGe page pages n L.flatten) := by
    have e := hfl n (Nat.le_refl _)
    rw [hn, List.take_length] at e
    exact ⟨hp, hs, by rw [e, hn, Nat.mul_comm], hc, hlt⟩
  have HC : Hid (∀ X, Below w.heap.size w X → ∀ k, k < n → ∃ ad ki d, L[k]? = some d ∧ d.length = page ∧ X.cell? ⟨bb, off + k, none⟩ = some (.slice (some ad) page ki) ∧ Hd.BRow X (some ad) d) := fun X hb k hk => by
    obtain ⟨d, hd⟩ : ∃ d, L[k]? = some d := ⟨_, List.getElem?_eq_getElem (by omega)⟩
    obtain ⟨ai, ki, h1, h2⟩ := hcs k d hd
    have hdl := hl d (List.mem_of_getElem? hd)
    have h3 := h2.kept (.of_below hb)
    rcases h3.row with e | ⟨b', o', e, _, hc'⟩
    · rw [e] at hdl; simp at hdl; omega
    · subst e
      refine ⟨_, ki, d, hd, hdl, ?_, .inr ⟨b', o', rfl, hc'⟩⟩
      rw [← hdl]
      exact cell_kept (S := fun _ => False) (.of_below hb) (fun e => e) h1
  have HR := hidW hr
  have HB := hidW hb
  have HWs := hidW hWs
  have HN := hidW hn
  obtain ⟨j0, hj, hy0, hy1, hy2⟩ := info_parts info8
  have hn64 : (n : Int) ≤ 64 := by omega
  have hpi : (page : Int) ≤ 512 := by omega
  have hnn : n ≤ 64 := by omega
  have hp512 : page ≤ 512 := hp.2
  have hp2 : 2 ≤ page := hp.1
  clear hr hb hWs hlt hfl hcs hL hl hc hs hp hn hn0
  go_enter Tryz.func14, Tryz.ntmps14
  go_wp2_with fail
  rw [← hW]
  clear hW
  go_loopg [10, 11] n (fun kx s10 s11 wr => ∃ k : Nat, k + kx = n ∧ s11 = .int .i64 (k : Nat) ∧ Hid (BSo W.heap.size W wr s10 (L.take k).flatten))
  case atStart => exact ⟨0, by omega, rfl, ⟨World.ownsRow_nil _ _ _ _, Below.refl _ _⟩⟩
  case round =>
    obtain ⟨k, hk, rfl, I⟩ := hrel
    by_cases hlt : k < n
    · obtain ⟨ad, ki, d, hd, hdl, hcell, hrow⟩ := HC.out wr (Below.after HB.out I.out.bel) k hlt
      have HD := hidW (And.intro hd hdl)
      have hkn : (k : Int) < (n : Int) := by omega
      have HKe : Hid (((L.take k)).flatten.length = k * page) := HFl.out k (by omega)
      have hkp : k * page ≤ 64 * 512 := Nat.mul_le_mul (by omega) hp512
      have t5 : k * page + page ≤ maxLen := by unfold maxLen; omega
      have t6 : (k * page + page) * 1 ≤ 140737488355328 := by omega
      have HT := hidW (And.intro t5 t6)
      have HRw := hidW hrow
      clear hd hdl hrow t5 t6
      go_wp2_with (at_builtin; go_must (refine Hd.wpList_append_bytes rfl (.tmp 27) (.tmp 31) rfl W.heap.size u10 (k * page) ((L.take k).flatten.map u8v) rfl (by rw [← HKe.out]; exact I.out.own) (some ad) page ki d rfl HD.out.2.symm HRw.out (fun e => by cases e) HT.out.1 HT.out.2 I.out.bel.size ?_); intro v5 w5 hown5 hgrow5)
      have HO5 : Hid (BSo W.heap.size W w5 v5 (L.take (k + 1)).flatten) := by
        have e : (L.take (k + 1)).flatten = (L.take k).flatten ++ d := by rw [List.take_add_one, HD.out.1]; simp
        refine ⟨?_, I.out.bel.grown hgrow5 I.out.bel.size fun z hz => (I.out.own.lt z hz).1⟩
        rw [e, List.length_append, HKe.out, HD.out.2, List.map_append]
        exact hown5
      clear hown5 hgrow5
      go_wp2_with fail
      go_roundg (n - (k + 1))
      case measure => omega
      case rel => exact ⟨k + 1, by omega, by go_num, HO5.out⟩
    · have hkn : k = n := by omega
      subst hkn
      have hT : (L.take k).flatten = L.flatten := by rw [HN.out, List.take_length]
      have hown := I.out.own
      rw [hT] at hown
      have hbel := I.out.bel
      have hlen : L.flatten.length = k * page := by rw [← hT]; exact HFl.out k (Nat.le_refl _)
      clear I hT HFl HC
      obtain ⟨b, hb⟩ : ∃ b, b = L.flatten := ⟨_, rfl⟩
      rw [← hb] at hown hlen HGe
      have HBe := hidW hb
      clear hb
      have hB0 : 0 < b.length := by rw [hlen]; exact Nat.mul_pos (by omega) (by omega)
      obtain ⟨g, cb, rfl⟩ : ∃ g cb, u10 = .slice (some ⟨g, 0, none⟩) b.length cb := by
        obtain ⟨g, cap, e, _⟩ := hown.form hB0
        exact ⟨g, cap, e⟩
      have HD0 : Hid (DRd w wr page pages b g cb ⟨w.heap.size, page, pages, .slice none 0 0, [], 0, false, fun _ => False⟩ (b.length + 1)) :=
        ⟨⟨Nat.le_refl _, HR.out.later hbel, ⟨[], rfl, ⟨rfl, .inl ⟨rfl, rfl⟩⟩, by simp, by simp⟩, lown_low hown (by have := HWs.out; omega), HB.out.trans (hbel.mono (by have := HWs.out; omega))⟩, ⟨rfl, rfl⟩, rfl, rfl, Nat.zero_le _, (by show 0 % page ≠ page - 1; rw [Nat.zero_mod]; omega), Nat.zero_le _, (by show b.length < b.length + 1 + 0; omega), rfl⟩
      have hBm := HGe.out.le.2
      obtain ⟨B, hB⟩ : ∃ B, B = b.length := ⟨_, rfl⟩
      have HBl := hidW hB
      rw [← hB] at hB0 hBm ⊢
      clear hown hbel hlen hB
      go_wp2_with fail
      go_loopg [] B (fun kx wv => ∃ d f, kx + d.e = B ∧ d.p = w.heap.size ∧ Hid (DRd w wv page pages b g cb d f))
      case atStart => exact ⟨_, _, Nat.add_zero _, rfl, HD0.out⟩
      case round =>
        clear HD0
        obtain ⟨d, f, hke, hdp, I⟩ := hrel
        obtain ⟨q, hq⟩ : ∃ q, q = d.e := ⟨_, rfl⟩
        rw [← hq] at hke
        have c3 := I.out.o.cells.2.2.2.1
        rw [hdp, ← hq] at c3
        by_cases hlt : q < B
        · have hq1 : q + 1 < B := by have := I.out.next HGe.out (by rw [← hq, ← HBl.out]; exact hlt); rw [← hq, ← HBl.out] at this; exact this
          obtain ⟨x0, hx0⟩ : ∃ x, x = b.getD q 0 := ⟨_, rfl⟩
          obtain ⟨x1, hx1⟩ : ∃ x, x = b.getD (q + 1) 0 := ⟨_, rfl⟩
          have y0 := I.out.o.byte q (by rw [← HBl.out]; exact hlt)
          have y1 := I.out.o.byte (q + 1) (by rw [← HBl.out]; exact hq1)
          rw [← hx0] at y0
          rw [← hx1] at y1
          have HM := hidW (mrk_bytes (b := b) (q := q) (by rw [← HBl.out]; exact hq1))
          rw [← hx0, ← hx1] at HM
          have hqi : (q : Int) < (B : Int) := by omega
          have hqi1 : (q : Int) + 1 < (B : Int) := by omega
          have hqi2 : (B : Int) ≤ 32768 := by omega
          have HQe := hidW hq
          clear hx0 hx1 hq
          cases hm : mrk b q with
          | true =>
            have hx : x0 = 255 ∧ x1 = 255 := by
              have := HM.out
              rw [hm] at this
              simpa using this.symm
            obtain ⟨rfl, rfl⟩ := hx
            obtain ⟨nx, hnx⟩ : ∃ nx, nx = rup page (q + 1) := ⟨_, rfl⟩
            have g1 := rup_ge (page := page) (q + 1) (by omega)
            have g2 : rup page (q + 1) ≤ B := by
              have e := HGe.out.n
              rw [HBl.out, e]
              exact rup_fit (by omega) (by rw [← e, ← HBl.out]; omega)
            rw [← hnx] at g1 g2
            have kR := fun W => rround_any (q + 1) page W (by omega) (by omega) (by omega)
            rw [← hnx] at kR
            simp only [Int.natCast_add, Int.cast_ofNat_Int] at kR
            have kB : ∀ c, Calls Tryz.prog 40 #[.slice (some ⟨g, q, none⟩) (nx - q) c] wr fun e w' => e = .returned (.bool (okS page b q)) ∧ wr = w' := fun c => dblank_at _ c (nx - q) ((b.drop q).take (nx - q)) wr _ (by rw [List.length_take, List.length_drop, ← HBl.out]; omega) (by rw [hnx]; rfl) (by rw [List.length_take, List.length_drop, ← HBl.out]; unfold maxLen; omega) (I.out.o.piece q (nx - q))
            have z1 : (q : Int) ≤ (nx : Int) := by omega
            have z2 : (nx : Int) ≤ (B : Int) := by omega
            have hcb := I.out.o.cap
            rw [← HBl.out] at hcb
            have z3 : (nx : Int) ≤ (cb : Int) := by omega
            have z4 : ¬ cb = q := by omega
            have z5 : (B : Int) ≤ (cb : Int) := by omega
            have z6 : q ≤ nx := by omega
            have HNx := hidW hnx
            clear hcb
            have c4 := I.out.o.cells.2.2.2.2
            have fz3 := I.out.o.box.frozen 3
            have fz4 := I.out.o.box.frozen 4
            rw [hdp] at c4 fz3 fz4
            clear hnx HM
            cases ho : okS page b q with
            | true =>
              rw [ho] at kB
              go_wp2_with (first
                | (go_at_call 39; refine (kR _).mono ?_; rintro e w5 ⟨rfl, rfl⟩)
                | (go_at_call 40; refine (kB _).mono ?_; rintro e w5 ⟨rfl, rfl⟩))
              have HS : Hid (DRd w (wr.setCell ⟨w.heap.size, 3, none⟩ (.int .i64 (nx : Nat))) page pages b g cb { d with e := nx } (f - 1)) := by
                have hql : d.e < b.length := by rw [← HQe.out, ← HBl.out]; exact hlt
                have k := I.out.skip HGe.out hql (by rw [← HQe.out]; exact hm) (by rw [← HQe.out]; exact ho) (by rw [← HQe.out, ← HNx.out]; exact I.out.o.setE' hdp nx)
                rw [← HQe.out, ← HNx.out] at k
                exact k
              go_roundg (B - nx)
              case measure => omega
              case rel => exact ⟨{ d with e := nx }, f - 1, by show B - nx + nx = B; omega, hdp, HS.out⟩
            | false =>
              rw [ho] at kB
              go_wp2_with (first
                | (go_at_call 39; refine (kR _).mono ?_; rintro e w5 ⟨rfl, rfl⟩)
                | (go_at_call 40; refine (kB _).mono ?_; rintro e w5 ⟨rfl, rfl⟩))
              go_ret
              have hql : d.e < b.length := by rw [← HQe.out, ← HBl.out]; exact hlt
              exact ⟨{ d with br := true }, by rw [hdp]; rfl, by rw [← HBe.out]; exact I.out.bad HGe.out hql (.inl ⟨by rw [← HQe.out]; exact hm, by rw [← HQe.out]; exact ho⟩) (I.out.o.setB' hdp true)⟩
          | false =>
            have hcb := I.out.o.cap
            rw [← HBl.out] at hcb
            have z4 : ¬ cb = q := by omega
            have z5 : (B : Int) ≤ (cb : Int) := by omega
            have z6 : (q : Int) ≤ (B : Int) := by omega
            have c4 := I.out.o.cells.2.2.2.2
            have fz4 := I.out.o.box.frozen 4
            rw [hdp] at c4 fz4
            rw [I.out.br] at c4
            have hx : x0 = 255 → x1 ≠ 255 := fun e1 e2 => by
              have := HM.out
              rw [hm, e1, e2] at this
              simp at this
            have hlr : (b.drop q).length = B - q := by rw [List.length_drop, ← HBl.out]
            have hrow := I.out.o.rest q
            have hlt2 : ∀ x ∈ b.drop q, x < 256 := fun x hx => HGe.out.lt x (List.mem_of_mem_drop hx)
            have hcc : cb - q ≤ 9223372036854775807 := by have := hcb.2; unfold maxLen at this; omega
            clear HM
            cases hf : isF b q with
            | false =>
              have kU := Hd.runframe_not (some ⟨g, q, none⟩) (cb - q) (b.drop q) wr (by rw [hlr]; omega) hcc hlt2 hrow (fun h => by have := (isF_iff b q).2 h; rw [hf] at this; cases this)
              rw [hlr] at kU
              clear hlr hrow hlt2 hcb hcc
              by_cases hx0 : x0 = 255
              · have hx1 : ((x1 : Int) == 255) = false := by simpa using (show ¬ (x1 : Int) = 255 by have := hx hx0; omega)
                subst hx0
                clear hx
                go_wp2_with (go_at_call 41; refine kU.mono ?_; rintro e w5 ⟨rfl, hb5⟩; have HB5 := hidW hb5; have d4 := (I.out.later hb5).o.cells.2.2.2.2; have dz4 := (I.out.later hb5).o.box.frozen 4; rw [hdp] at d4 dz4; clear hb5)
                go_ret
                have hql : d.e < b.length := by rw [← HQe.out, ← HBl.out]; exact hlt
                exact ⟨{ d with br := true }, by rw [hdp]; rfl, by rw [← HBe.out]; exact (I.out.later HB5.out).bad HGe.out hql (.inr ⟨by rw [← HQe.out]; exact hm, by rw [← HQe.out]; exact hf⟩) ((I.out.later HB5.out).o.setB' hdp true)⟩
              · have hx1 : ((x0 : Int) == 255) = false := by simpa using (show ¬ (x0 : Int) = 255 by omega)
                clear hx hx0
                go_wp2_with (go_at_call 41; refine kU.mono ?_; rintro e w5 ⟨rfl, hb5⟩; have HB5 := hidW hb5; have d4 := (I.out.later hb5).o.cells.2.2.2.2; have dz4 := (I.out.later hb5).o.box.frozen 4; rw [hdp] at d4 dz4; clear hb5)
                go_ret
                have hql : d.e < b.length := by rw [← HQe.out, ← HBl.out]; exact hlt
                exact ⟨{ d with br := true }, by rw [hdp]; rfl, by rw [← HBe.out]; exact (I.out.later HB5.out).bad HGe.out hql (.inr ⟨by rw [← HQe.out]; exact hm, by rw [← HQe.out]; exact hf⟩) ((I.out.later HB5.out).o.setB' hdp true)⟩
            | true =>
              have kU := Hd.runframe_is (some ⟨g, q, none⟩) (cb - q) (b.drop q) wr (by rw [hlr]; omega) hcc hlt2 hrow ((isF_iff b q).1 hf)
              rw [hlr] at kU
              obtain ⟨k1, k2, k3, k4, k5⟩ := isF_facts hf
              have k6 := frame_fits HGe.out hf
              have k7 := bgn_le page (fend b q)
              have hfe : fend b q = q + (6 + Hd.sizeL (b.drop q)) := rfl
              have hoF := okF_byte k6.1
              obtain ⟨m, hmz⟩ : ∃ m, m = Hd.sizeL (b.drop q) := ⟨_, rfl⟩
              obtain ⟨body, hbd⟩ : ∃ body, body = Hd.bodyL (b.drop q) := ⟨_, rfl⟩
              obtain ⟨en, hen⟩ : ∃ en, en = bgn page (fend b q) := ⟨_, rfl⟩
              rw [← hmz] at kU hfe
              rw [← hbd] at kU k1 k3 k4 k5
              rw [← hen] at k6 k7 hoF
              have hbm : body.length = m := by omega
              rw [hfe] at k6 k7
              rw [← HBl.out] at k6
              have HEn := hidW (And.intro hen (And.intro hfe hbd))
              have kG := fun W => rbegin_any (q + (6 + m)) page W (by omega) (by omega) (by omega)
              rw [← hfe, ← hen, hfe] at kG
              have m1 : (m : Int) ≤ 1024 := by omega
              have m2 : (q : Int) + (6 + (m : Int)) ≤ 32768 := by omega
              obtain ⟨jf, hjf, hf0, hf1, hf2⟩ := info_parts infoDf
              clear hlr hrow hlt2 hcb hcc k1 k2 k3 hmz hbd hen hfe
              have hcase : (x0 = 255 ∧ ((x1 : Int) == 255) = false) ∨ ((x0 : Int) == 255) = false := by
                by_cases hx0 : x0 = 255
                · exact .inl ⟨hx0, by simpa using (show ¬ (x1 : Int) = 255 by have := hx hx0; omega)⟩
                · exact .inr (by simpa using (show ¬ (x0 : Int) = 255 by omega))
              clear hx
              rcases hcase with ⟨rfl, hx1⟩ | hx1
              all_goals
                go_wp2_with (go_at_call 41; refine kU.mono ?_; rintro e w5 ⟨v5, rfl, ho5⟩; obtain ⟨a5, c5, rfl, _⟩ := ho5.row; have HO5 : Hid (w5.ownsRow wr.heap.size 5 1 (.slice a5 m c5) body.length (body.map u8v) ∧ Below wr.heap.size wr w5) := (by rw [← hbm]; exact ho5); have d2 := (I.out.later ho5.2).o.cells.2.2.1; have d3 := (I.out.later ho5.2).o.cells.2.2.2.1; have dz2 := (I.out.later ho5.2).o.box.frozen 2; rw [hdp] at d2 d3 dz2; rw [← HQe.out] at d3; clear ho5)
                have hI5 := I.out.later HO5.out.2
                obtain ⟨vs, hvs, hv2, hv3, hv4⟩ := hI5.o.frs
                have HVS := hidW (And.intro hvs (And.intro hv2 (And.intro hv3 hv4)))
                have hct := hI5.ct
                have hle := hI5.le
                rw [← HBl.out] at hle
                have HCT : Hid (d.fs.length ≤ 5000) := by show _ ≤ _; omega
                have HBA : Hid (w.heap.size ≤ w5.heap.size) := hI5.o.bs
                have HI5 := hidW hI5
                have d2' := (hI5.later (below_new w5 (.cells #[.int .i64 (q : Nat), .slice a5 m c5] 97))).o.cells.2.2.1
                rw [hdp] at d2'
                have HOF : Hid ((w5.alloc (.cells #[.int .i64 (q : Nat), .slice a5 m c5] 97)).drew.ownsRow w.heap.size 97 2 d.fv d.fs.length ((d.fs.zip vs).flatMap fzCells)) := owns_later (owns_later hv2 (below_new _ _)) (below_drew' _)
                clear hvs hv2 hv3 hv4 hct hle hI5
                go_region_law (refine step_append_lies _ (by rfl) _ _ _ (by rfl) w.heap.size 97 jf _ 2 32 Tryz.underlying90 hjf hf0 hf1 hf2 rfl (by omega) d.fv d.fs.length ((d.fs.zip vs).flatMap fzCells) (by rfl) HOF.out ⟨w5.heap.size, 0, none⟩ 1 1 [.int .i64 (q : Nat), .slice a5 m c5] (by rfl) (by rfl) (World.news_of_block (cs := #[.int .i64 (q : Nat), .slice a5 m c5]) (t := 97) (fr := (0, 0)) (lheap_new w5 _)) (by simp [Value.oneCell']) (by omega) (by have := HCT.out; unfold maxLen; omega) (by have := HCT.out; omega) (by have := HBA.out; simp; omega) (w5.heap.size + 1) (by simp) ?_; intro gg cc w6 hown6 hgrow6 hat6 hlt6; have HP := hidW (DO.push' (((HI5.out.later (below_new w5 (.cells #[.int .i64 (q : Nat), .slice a5 m c5] 97))).later (below_drew' _)).o) hdp HQe.out HVS.out.1 HOF.out (fun z hz => owns_later (owns_later (HVS.out.2.2.1 z hz) (below_new _ _)) (below_drew' _)) HVS.out.2.2.2 (fun z e => by rw [I.out.no]; exact fun e => e) (owns_later (owns_later (lown_low HO5.out.1 I.out.o.bs) (below_new _ _)) (below_drew' _)) hgrow6 hown6); have c6 := HP.out.1.1; have f6 := HP.out.1.2; clear hown6 hgrow6 hat6 hlt6)
                all_goals
                  obtain ⟨v2, hv2⟩ : ∃ v2 : Value, v2 = .slice (some ⟨gg, 0, none⟩) (d.fs.length + 1) cc := ⟨_, rfl⟩
                  obtain ⟨Z, hZ⟩ : ∃ Z, Z = w6.setCell ⟨w.heap.size, 2, none⟩ (.slice (some ⟨gg, 0, none⟩) (d.fs.length + 1) cc) := ⟨_, rfl⟩
                  rw [← hZ]
                  have HD2 : Hid (DO w.heap.size w Z { d with fv := v2, fs := d.fs ++ [(d.e, body)] } g cb b) := by rw [hZ, hv2]; exact HP.out.2
                  have r3 : Z.cell? ⟨w.heap.size, 3, none⟩ = some (.int .i64 (q : Nat)) := by
                    have e := HD2.out.cells.2.2.2.1
                    rw [← hdp, HQe.out]
                    exact e
                  have r4 : Z.cell? ⟨w.heap.size, 4, none⟩ = some (.bool false) := by
                    have e := HD2.out.cells.2.2.2.2
                    rw [← hdp, ← I.out.br]
                    exact e
                  have rz3 : Z.frozen? ⟨w.heap.size, 3, none⟩ = false := by
                    rw [← hdp]
                    exact HD2.out.box.frozen 3
                  have rz4 : Z.frozen? ⟨w.heap.size, 4, none⟩ = false := by
                    rw [← hdp]
                    exact HD2.out.box.frozen 4
                  clear hZ c6 f6 HP HOF HI5 HVS d2 d2' d3 dz2 hv2 HO5 c3 c4 fz4 y0 y1
                  have hql : Hid (d.e < b.length) := by show _ < _; rw [← HQe.out, ← HBl.out]; exact hlt
                  have hb2 : Hid (body = Hd.bodyL (b.drop d.e)) := by show _ = _; rw [← HQe.out]; exact HEn.out.2.2
                  have he2 : Hid (en = bgn page (fend b d.e)) := by show _ = _; rw [← HQe.out]; exact HEn.out.1
                  by_cases hA : en = q + (6 + m)
                  · have hF := hidW (show okF page b q = true by rw [hoF, HEn.out.2.1, hA]; simp)
                    have l1 : ¬ (q : Int) + (6 + (m : Int)) < (en : Int) := by omega
                    have l2 : (en : Int) ≤ 32768 := by omega
                    have l5 : q < en := by omega
                    have l6 : en ≤ B := by omega
                    clear hoF hA k6 k7
                    go_wp2_with (go_at_call 42; refine (kG _).mono ?_; rintro e w7 ⟨rfl, rfl⟩)
                    have HS : Hid (DRd w (Z.setCell ⟨w.heap.size, 3, none⟩ (.int .i64 (en : Nat))) page pages b g cb { d with fv := v2, fs := d.fs ++ [(d.e, body)], e := en } (f - 1)) := by
                      have k := I.out.frame (v := v2) (W' := Z.setCell ⟨w.heap.size, 3, none⟩ (.int .i64 (en : Nat))) HGe.out hql.out (by rw [← HQe.out]; exact hm) (by rw [← HQe.out]; exact hf) (by rw [← HQe.out]; exact hF.out)
                      rw [← hb2.out, ← he2.out] at k
                      exact k (HD2.out.setE' hdp en)
                    go_roundg (B - en)
                    case measure => omega
                    case rel => exact ⟨{ d with fv := v2, fs := d.fs ++ [(d.e, body)], e := en }, f - 1, by show B - en + en = B; omega, hdp, HS.out⟩
                  · obtain ⟨fe, hfe⟩ : ∃ fe, fe = q + (6 + m) := ⟨_, rfl⟩
                    obtain rfl : en = fe + 1 := by omega
                    obtain ⟨y, hy⟩ : ∃ y, y = b.getD fe 0 := ⟨_, rfl⟩
                    have ry := HD2.out.byte fe (by rw [← HBl.out]; omega)
                    rw [← hy] at ry
                    have hoF2 : okF page b q = (y == 255) := by
                      rw [hoF, HEn.out.2.1]
                      rw [show decide (fe + 1 = q + (6 + m)) = false by simp; omega, Bool.false_or, Nat.add_sub_cancel, ← hy]
                    have l1 : (q : Int) + (6 + (m : Int)) < (fe : Int) + 1 := by omega
                    have l2 : (fe : Int) + 1 ≤ 32768 := by omega
                    have l3 : (fe : Int) < (B : Int) := by omega
                    have l4 : 0 ≤ (fe : Int) := by omega
                    simp only [Int.natCast_add, Int.cast_ofNat_Int] at kG
                    have HFe := hidW hfe
                    clear hoF hy hfe hA
                    by_cases hy : y = 255
                    · have hF := hidW (show okF page b q = true by rw [hoF2, hy]; rfl)
                      subst hy
                      clear hoF2
                      go_wp2_with (go_at_call 42; refine (kG _).mono ?_; rintro e w7 ⟨rfl, rfl⟩)
                      have HS : Hid (DRd w (Z.setCell ⟨w.heap.size, 3, none⟩ (.int .i64 ((fe : Int) + 1))) page pages b g cb { d with fv := v2, fs := d.fs ++ [(d.e, body)], e := fe + 1 } (f - 1)) := by
                        have k := I.out.frame (v := v2) (W' := Z.setCell ⟨w.heap.size, 3, none⟩ (.int .i64 ((fe + 1 : Nat) : Int))) HGe.out hql.out (by rw [← HQe.out]; exact hm) (by rw [← HQe.out]; exact hf) (by rw [← HQe.out]; exact hF.out)
                        rw [← hb2.out, ← he2.out] at k
                        exact k (HD2.out.setE' hdp (fe + 1))
                      go_roundg (B - (fe + 1))
                      case measure => omega
                      case rel => exact ⟨{ d with fv := v2, fs := d.fs ++ [(d.e, body)], e := fe + 1 }, f - 1, by show B - (fe + 1) + (fe + 1) = B; omega, hdp, HS.out⟩
                    · have hF := hidW (show okF page b q = false by rw [hoF2]; simpa using hy)
                      have hyb : ((y : Int) == 255) = false := by simpa using (show ¬ (y : Int) = 255 by omega)
                      have hyc : ((y : Int) != 255) = true := by simpa using (show ¬ (y : Int) = 255 by omega)
                      clear hoF2 hy
                      go_wp2_with (go_at_call 42; refine (kG _).mono ?_; rintro e w7 ⟨rfl, rfl⟩)
                      go_ret
                      have k := I.out.torn (v := v2) (W' := (Z.setCell ⟨w.heap.size, 4, none⟩ (.bool true)).setCell ⟨w.heap.size, 3, none⟩ (.int .i64 ((fe + 1 : Nat) : Int))) HGe.out hql.out (by rw [← HQe.out]; exact hm) (by rw [← HQe.out]; exact hf) (by rw [← HQe.out]; exact hF.out)
                      rw [← hb2.out, ← he2.out] at k
                      exact ⟨{ d with fv := v2, fs := d.fs ++ [(d.e, body)], e := fe + 1, br := true }, by rw [hdp]; rfl, by rw [← HBe.out]; exact k ((HD2.out.setB' hdp true).setE' hdp (fe + 1))⟩
        · have c4 := I.out.o.cells.2.2.2.2
          have fz := I.out.o.box.frozen 4
          rw [hdp] at c4 fz
          have hge : (B : Int) ≤ (q : Int) := by omega
          have HQ := hidW (show b.length ≤ d.e by rw [← HBl.out, ← hq]; omega)
          go_wp2_with fail
          go_ret
          exact ⟨{ d with br := false }, by rw [hdp]; rfl, by rw [← HBe.out]; exact I.out.stop HGe.out HQ.out (I.out.o.setB' hdp false)⟩
end Go.Proofs.YteodcjbbkekidaaGreatDoor
