/-
  Open of a log.
-/
import Derived.Test.YtkfecngkdlajgaaGreatDoorQJ
namespace Go.Proofs.YtkfecngkdlajgaaGreatDoor
open Go.RowKit Go.Shelf Go.Extern.Stop Go.Stop Go.Extern
attribute [local go_sem] Oper.semAt_some
set_option maxRecDepth 100000

set_option maxHeartbeats 8000000 in
theorem open_in (n : Nat) (hn : 6 ≤ n) {base t : Nat} {w : World} {m : Mg} {c : CS} {P : List (List (List Nat))} (h : Ms base t w m c P) (leb : Nat) (hleb : (leb : Int) + c.gr + 2 < c.gb) :
    CallsIn Fence.wide n Tryz.prog 55 #[.pointer (some ⟨m.p, 0, none⟩), .int .i64 (leb : Nat)] w fun e w' => ∃ l, e = .returned (.tuple #[.pointer (some ⟨l.p, 0, none⟩), .int .i64 0]) ∧ OpenP base t w m c P leb l w' := by
  have hg := h.rp.rb.geo
  have kL := ld_go h (leb : Nat) (by omega) hleb
  have HUs : Hid (∀ X, Ms base t X m c P → Calls Tryz.prog 95 #[.pointer (some ⟨m.p, 0, none⟩), .int .i64 (leb : Nat)] X fun e w' => e = .returned (.int .i64 (((cont m.bl P leb).getD []).length : Nat)) ∧ Below X.heap.size X w') := fun X hX => used_go hX leb
  have HPg : Hid (∀ X, Ms base t X m c P → Calls Tryz.prog 67 #[.pointer (some ⟨m.p, 0, none⟩)] X fun e w' => e = .returned (.int .i64 (c.gz : Nat)) ∧ Below X.heap.size X w') := fun X hX => mpage_any hX.ml
  obtain ⟨np, hnp⟩ : ∃ np, np = ((cont m.bl P leb).getD []).length := ⟨_, rfl⟩
  obtain ⟨b, hb⟩ : ∃ b, b = ((cont m.bl P leb).getD []).flatten := ⟨_, rfl⟩
  obtain ⟨D, hD⟩ : ∃ D, D = (c.gp - 2) * c.gz := ⟨_, rfl⟩
  obtain ⟨nb, hnb⟩ : ∃ nb, nb = b.length := ⟨_, rfl⟩
  have hb1 : b.length = c.gz * np ∧ c.gz * np ≤ D ∧ D ≤ 31744 ∧ ∀ x ∈ b, x < 256 := by
    have hpg := h.pages leb
    have hpl := h.page_le leb
    refine ⟨by rw [hb, hnp]; exact flat_lens fun x hx => (hpg x hx).1, ?_, ?_, fun x hx => ?_⟩
    · rw [hD, Nat.mul_comm]; exact Nat.mul_le_mul_right _ (by omega)
    · have : (c.gp - 2) * c.gz ≤ 62 * 512 := Nat.mul_le_mul (by omega) (by omega)
      omega
    · rw [hb] at hx
      obtain ⟨y, hy, hxy⟩ := List.mem_flatten.1 hx
      exact (hpg y hy).2 x hxy
  have HB1 := hidV hb1
  rw [← hnp] at HUs
  rw [← hb, ← hD] at kL
  rw [← hnb] at kL
  have HN := hidV hnb
  have n1 : 1 ≤ n := by omega
  have HDef := hidV (show np = ((cont m.bl P leb).getD []).length ∧ b = ((cont m.bl P leb).getD []).flatten ∧ D = (c.gp - 2) * c.gz from ⟨hnp, hb, hD⟩)
  have HLb := hidV hleb
  have HMp := hidV h.ml.box.lt
  clear hnp hb hD hnb hb1 h hleb
  refine callsIn_of_wp_marks Tryz.func55 rfl trivial ?_ rfl
  simp only [Tryz.ntmps55, List.size_toArray, List.length_cons, List.length_nil, Nat.reduceAdd, Nat.reduceSub, Array.replicate_succ, Array.replicate_zero, List.push_toArray, List.append_toArray, List.nil_append, List.cons_append]
  gi_wp2_with (first
    | (refine ⟨trivial, ?_⟩; gi_at_call 94; refine (callsIn_wide.2 kL).mono ?_; rintro e w1 ⟨g, rfl, h1⟩; have H1 := hidV h1; clear h1)
    | (refine ⟨trivial, ?_⟩; gi_at_call 95; refine (callsIn_wide.2 (HUs.out _ H1.out.ms)).mono ?_; rintro e w2 ⟨rfl, hb2⟩; have HB2 := hidV hb2; have HY : Hid (Below w2.heap.size w2 ((w2.alloc (.cells #[.pointer (some ⟨m.p, 0, none⟩), .int .i64 (leb : Nat), .slice none 0 0, .int .i64 (np : Nat), .slice none 0 0, .bool false] 166)).alloc (.cells #[.pointer (some ⟨w2.heap.size, 0, none⟩)] 78))) := ((Below.refl _ w2).alloc (Nat.le_refl _) _).alloc (by simp) _; have HYm := hidV ((H1.out.later hb2).ms.later HY.out); clear hb2)
    | (refine ⟨trivial, ?_⟩; gi_at_call 67; refine (callsIn_wide.2 (HPg.out _ HYm.out)).mono ?_; rintro e w3 ⟨rfl, hb3⟩; have HB3 := hidV hb3; clear hb3)
    | (refine ⟨trivial, ?_⟩; gi_at_call 96; refine (callsIn_wide.2 (frames_mk _ _)).mono ?_; rintro e w4 ⟨rfl, rfl⟩))
  obtain ⟨W0, hW0⟩ : ∃ W0, W0 = ((w3.alloc (.cells #[.slice (some ⟨g, 0, none⟩) nb D, .int .i64 (c.gz : Nat), .int .i64 0, .bool false] 169)).alloc (.cells #[.pointer (some ⟨w3.heap.size, 0, none⟩)] 167)) := ⟨_, rfl⟩
  have hsz : W0.heap.size = w3.heap.size + 2 := by rw [hW0]; simp
  have hb30 : Below w3.heap.size w3 W0 := by rw [hW0]; exact ((Below.refl _ w3).alloc (Nat.le_refl _) _).alloc (by simp) _
  have rBr : Row W0 w3.heap.size [.slice (some ⟨g, 0, none⟩) nb D, .int .i64 (c.gz : Nat), .int .i64 0, .bool false] 169 := by rw [hW0]; exact (Row.new w3 [.slice (some ⟨g, 0, none⟩) nb D, .int .i64 (c.gz : Nat), .int .i64 0, .bool false] _).later (below_new _ _)
  have cBx : W0.cell? ⟨w3.heap.size + 1, 0, none⟩ = some (.pointer (some ⟨w3.heap.size, 0, none⟩)) := by
    have _h := (Row.new (w3.alloc (.cells #[.slice (some ⟨g, 0, none⟩) nb D, .int .i64 (c.gz : Nat), .int .i64 0, .bool false] 169)) [.pointer (some ⟨w3.heap.size, 0, none⟩)] 167).cell (i := 0) rfl
    rw [hW0]
    simp
  have h2 := H1.out.later HB2.out
  have rowg := lown_row h2.row (g := g) rfl
  have hgl : g < w2.heap.size := by obtain ⟨_, cs, hr⟩ := rowg; exact hr.lt
  have rp : Row W0 w2.heap.size (oCells m.p leb np (.slice none 0 0)) 166 := (((Row.new w2 (oCells m.p leb np (.slice none 0 0)) 166).later (below_new _ _)).later HB3.out).later hb30
  have rl : Row W0 (w2.heap.size + 1) [.pointer (some ⟨w2.heap.size, 0, none⟩)] 78 := by
    have := ((Row.new (w2.alloc (.cells #[.pointer (some ⟨m.p, 0, none⟩), .int .i64 (leb : Nat), .slice none 0 0, .int .i64 (np : Nat), .slice none 0 0, .bool false] 166)) [.pointer (some ⟨w2.heap.size, 0, none⟩)] 78).later HB3.out).later hb30
    simpa using this
  have hb20 : Below w2.heap.size w2 W0 := HY.out.trans ((Below.after HB3.out hb30).mono (by simp; omega))
  have hsz3 : w2.heap.size + 2 ≤ w3.heap.size := by have := HB3.out.size; simpa using this
  have hms := (h2.ms.later hb20)
  have hO : Opi w2 m.p W0.heap.size w2.heap.size (w2.heap.size + 1) g leb np (.slice none 0 0) [] W0 := ⟨rl, rp, by simpa using World.ownsRow_nil W0 W0.heap.size 173 2, hb20, Nat.le_refl _⟩
  have hrow := owns_later h2.row hb20
  have hRd : Rdr W0 w3.heap.size g D b c.gz 0 false := ⟨by rw [← HN.out]; exact rBr, fun i hi => by rw [hrow.cellAt i (by simpa using hi)]; simp [u8v, hi, List.getD], by omega⟩
  have hwp : w.heap.size ≤ g := rowg.1
  have hw2 : w.heap.size ≤ w2.heap.size := h2.kp.size
  have HH2 := hidV h2
  have HO := hidV hO
  have HRd := hidV hRd
  have HMs := hidV hms
  have HRow := hidV hrow
  have HBx := hidV cBx
  obtain ⟨j0, hj, hy0, hy1, hy2⟩ := info_parts infoFm
  rw [← hW0]
  obtain ⟨gz, hgz⟩ : ∃ gz, gz = c.gz := ⟨_, rfl⟩
  rw [← hgz] at HRd ⊢
  obtain ⟨p, hp⟩ : ∃ p, p = w2.heap.size := ⟨_, rfl⟩
  obtain ⟨Br, hBr⟩ : ∃ Br, Br = w3.heap.size := ⟨_, rfl⟩
  rw [← hp] at HO hgl hsz3
  rw [← hBr] at HRd HBx hsz hsz3
  rw [← hp, ← hBr]
  clear HY HYm HB2 HB3 H1 rBr cBx h2 rowg rp rl hb20 hms hO hrow hRd hb30 hW0 HUs HPg kL hBr
  obtain ⟨b0, hb0⟩ : ∃ b0, b0 = W0.heap.size := ⟨_, rfl⟩
  rw [← hb0] at HO hsz
  have HK : Hid (∀ k, (k = Br + 1 ∨ k = Br ∨ k = g) → k < b0 ∧ k ≠ p) := fun k e => by omega
  have hbd : b.length ≤ D ∧ D ≤ 31744 ∧ (∀ x ∈ b, x < 256) ∧ ∃ N, b.length = gz * N := by
    obtain ⟨e1, e2, e3, e4⟩ := HB1.out
    exact ⟨by omega, e3, e4, np, by rw [hgz]; exact e1⟩
  have HBd := hidV hbd
  have HWp : Hid (w2.heap.size ≤ p ∧ w2.heap.size ≤ b0 ∧ w2.heap.size ≤ Br ∧ p ≤ w2.heap.size ∧ w.heap.size ≤ g ∧ w.heap.size ≤ w2.heap.size ∧ g < p) := by show _ ∧ _; omega
  have HG := hidV (show 64 ≤ gz ∧ gz ≤ 512 ∧ gz = c.gz by omega)
  have HB0 := hidV hb0
  clear hbd hgz hb0 hg hp
  refine range_st (L := (rdr gz b (b.length + 1) 0).1) rfl (by omega) (gf := 140) (lb := #[.pointer (some ⟨Br + 1, 0, none⟩)]) rfl trivial (enters_of Tryz.func140 (by kernel_rfl) rfl)
    (frames1_stops HRd.out HBx.out (by omega) ⟨HG.out.1, HG.out.2.1⟩ ⟨HBd.out.1, HBd.out.2.1⟩ HBd.out.2.2.2.choose_spec HBd.out.2.2.1 _)
    (fun k hk => by rw [← HB0.out]; exact (HK.out k hk).1) (by have := HB0.out; omega) (fun _ => rfl) (fun pre X => ∃ fv, Opi w2 m.p b0 p (p + 1) g leb np fv pre X) ?hI ?hT ⟨_, HO.out⟩
    (fun x a' X => ∃ Fb, Row X Fb [.int .i64 (x.1 : Nat), .slice (some ⟨g, x.1 + 6, none⟩) x.2.length x.2.length] 173 ∧ a' = { tmps := #[.pointer (some ⟨m.p, 0, none⟩), .int .i64 (leb : Nat), undef, undef, .pointer none, .int .i64 0, .slice (some ⟨g, 0, none⟩) nb D, .int .i64 0, .pointer (some ⟨p + 1, 0, none⟩), .pointer (some ⟨Br, 0, none⟩), .pointer (some ⟨Fb, 0, none⟩), .tuple #[.slice (some ⟨g, 0, none⟩) nb D, .int .i64 0], .pointer (some ⟨m.p, 0, none⟩), .int .i64 (leb : Nat), .tuple #[.slice (some ⟨g, 0, none⟩) nb D, .int .i64 0], .slice (some ⟨g, 0, none⟩) nb D, .int .i64 0, .int .i64 0, .bool false, undef, .pointer (some ⟨m.p, 0, none⟩), .int .i64 (leb : Nat), .pointer (some ⟨m.p, 0, none⟩), .int .i64 (leb : Nat), .int .i64 (np : Nat), .agg #[.pointer (some ⟨m.p, 0, none⟩), .int .i64 (leb : Nat), .slice none 0 0, .int .i64 (np : Nat), .slice none 0 0, .bool false], .pointer (some ⟨p, 0, none⟩), .slice (some ⟨g, 0, none⟩) nb D, .pointer (some ⟨m.p, 0, none⟩), .int .i64 (gz : Nat), .agg #[.slice (some ⟨g, 0, none⟩) nb D, .int .i64 (gz : Nat), .int .i64 0, .bool false], .pointer (some ⟨Br, 0, none⟩), .pointer (some ⟨Br, 0, none⟩), .func (.func 140) #[] #[.pointer (some ⟨Br + 1, 0, none⟩)], .agg #[.int .i64 (x.1 : Nat), .slice (some ⟨g, x.1 + 6, none⟩) x.2.length x.2.length], undef, undef, undef, undef, undef, undef, undef, undef, undef, undef, undef, undef, undef, undef, undef, undef, undef, undef, undef, undef, undef, undef, undef, undef, undef, undef, undef], defers := [] }) ?hAx ?hassign ?hbody ?hdone
  case hI =>
    rintro xs A B S ⟨fv, hA⟩ hk hS
    have h0 := HB0.out
    have h1 := HWp.out
    refine ⟨fv, hA.keep hk (fun e => ?_) (fun e => ?_) (fun k e1 e2 => ?_) (fun k e => ?_)⟩
    · rcases hS _ e with q | ⟨q, _⟩
      · omega
      · omega
    · rcases hS _ e with q | ⟨q, _⟩
      · omega
      · omega
    · rcases hS _ e2 with q | ⟨_, q⟩
      · omega
      · exact q
    · rcases hS _ e with q | ⟨q, _⟩
      · omega
      · omega
  case hT =>
    intro A B hA hk
    exact hA.holds hk (.inr (.inl rfl)) (.inr (.inr rfl))
  case hAx =>
    rintro x a' A B S ⟨Fb, hr, rfl⟩ hk hS
    refine ⟨Fb, hr.kept hk (fun e => ?_), rfl⟩
    obtain ⟨_, o, ho, hc⟩ := hS _ e
    rw [row_cells' hr ho] at hc
    cases hc
  case hassign =>
    rintro l pre x W R ⟨fv, hA⟩ hR
    dsimp only [fmA]
    gi_wp2
    exact hR _ _ ⟨W.heap.size, Row.new W [.int .i64 (x.1 : Nat), .slice (some ⟨g, x.1 + 6, none⟩) x.2.length x.2.length] _, rfl⟩ ⟨fv, hA.later (below_new W _)⟩ (KeepsOthers.alloc _ _) (fun k hk => Below.heap_alloc _ _ _ (by have := (HK.out k hk).1; have := hA.sz; omega))
  case hbody =>
    rintro l pre x a' W ⟨fv, hA⟩ ⟨Fb, hF, rfl⟩ hpre
    obtain ⟨xa, hxa⟩ : ∃ xa, xa = x.1 := ⟨_, rfl⟩
    obtain ⟨xn, hxn⟩ : ∃ xn, xn = x.2.length := ⟨_, rfl⟩
    obtain ⟨nf, hnf⟩ : ∃ nf, nf = pre.length := ⟨_, rfl⟩
    have hOV := (hA.later (Below.drew (Below.refl _ W))).later (below_new W.drew (.cells #[.int .i64 (xa : Nat), .slice (some ⟨g, xa + 6, none⟩) xn xn] 173))
    have hbV : Below W.heap.size W (W.drew.alloc (.cells #[.int .i64 (xa : Nat), .slice (some ⟨g, xa + 6, none⟩) xn xn] 173)) := ((Below.refl _ W).drew).alloc (Nat.le_refl _) _
    have hnfb : nf ≤ 31744 := by
      have h1 := hpre.length_le
      have h2 := (rdr_ok gz (by have := HG.out; omega) b _ HBd.out.2.2.2.choose_spec (b.length + 1) 0 (Nat.zero_le _) (by have := HG.out; simp; omega))
      have h3 := h2.1.count
      have h4 := HBd.out
      simp only [List.length_append, List.length_singleton] at h1
      omega
    have HPush : Hid (∀ v' w5, w5.ownsRow b0 173 2 v' (nf + 1) (pre.flatMap (fCells g) ++ [.int .i64 (xa : Nat), .slice (some ⟨g, xa + 6, none⟩) xn xn]) → (W.drew.alloc (.cells #[.int .i64 (xa : Nat), .slice (some ⟨g, xa + 6, none⟩) xn xn] 173)).grownBy w5 fv.ownBlock →
        (w5.cell? ⟨p, 4, none⟩ = some fv ∧ w5.frozen? ⟨p, 4, none⟩ = false ∧ w5.cell? ⟨p + 1, 0, none⟩ = some (.pointer (some ⟨p, 0, none⟩))) ∧ KeepsOthers W (w5.setCell ⟨p, 4, none⟩ v') ∧ Holds (fun k => k = Br + 1 ∨ k = Br ∨ k = g) W (w5.setCell ⟨p, 4, none⟩ v') ∧ Opi w2 m.p b0 p (p + 1) g leb np v' (pre ++ [x]) (w5.setCell ⟨p, 4, none⟩ v')) := fun v' w5 h1 h2 =>
      hA.step hbV ((KeepsOthers.drew W).trans (KeepsOthers.alloc _ _)) (by omega) (by omega) (by have := HWp.out; omega) HK.out (by rw [hnf, hxa, hxn] at h1; exact h1) h2
    have HOV : Hid ((W.drew.alloc (.cells #[.int .i64 (xa : Nat), .slice (some ⟨g, xa + 6, none⟩) xn xn] 173)).ownsRow b0 173 2 fv nf (pre.flatMap (fCells g))) := by rw [hnf]; exact hOV.frs
    have HBV : Hid (b0 ≤ (W.drew.alloc (.cells #[.int .i64 (xa : Nat), .slice (some ⟨g, xa + 6, none⟩) xn xn] 173)).heap.size) := hOV.sz
    rw [← hxa, ← hxn] at hF ⊢
    have cl := hA.lx.cell (i := 0) rfl
    have c4 := hA.lb.cell (i := 4) rfl
    have m0 := hF.cell (i := 0) rfl
    have m1 := hF.cell (i := 1) rfl
    have dl := hOV.lx.cell (i := 0) rfl
    have d4 := hOV.lb.cell (i := 4) rfl
    have l0 := hA.lx.lt
    have l1 := hA.lb.lt
    have l2 := hF.lt
    clear hOV hbV hA hF hpre hxa hxn hnf
    gi_wp2
    refine region_round l (by kernel_rfl) (by kernel_rfl) ?_
    refine wpAnyIn_ready (rs := [0, 1, 5]) (by kernel_rfl) (by simp) (AllReadyIn.cons rfl (fun K hK => ?_) (AllReadyIn.cons rfl (fun K hK => ?_) (AllReadyIn.cons rfl (fun K hK => ?_) AllReadyIn.nil)))
    · (go_simp; refine hK _ _ ?_; clear hK)
      refine wpAnyIn_ready (rs := [1, 5]) (by kernel_rfl) (by simp) (AllReadyIn.cons rfl (fun K hK => ?_) (AllReadyIn.cons rfl (fun K hK => ?_) AllReadyIn.nil))
      · (go_simp; refine hK _ _ ?_; clear hK)
        (refine wpAnyIn_take (i := 2) (v := ?_) rfl rfl (by kernel_rfl) (by kernel_rfl) (by kernel_rfl) (fun _ _ _ h => h) ⟨Or.inl ⟨by rfl, ?_⟩, fun _ => rfl⟩ ?_; rotate_left; (focus (intro w; go_simp; (try with_reducible rfl))))
        (refine wpAnyIn_take (i := 3) (v := ?_) rfl rfl (by kernel_rfl) (by kernel_rfl) (by kernel_rfl) (fun _ _ _ h => h) ⟨Or.inl ⟨by rfl, ?_⟩, fun _ => rfl⟩ ?_; rotate_left; (focus (intro w; go_simp; (try with_reducible rfl))))
        refine wpAnyIn_ready (rs := [4, 5]) (by kernel_rfl) (by simp) (AllReadyIn.cons rfl (fun K hK => ?_) (AllReadyIn.cons rfl (fun K hK => ?_) AllReadyIn.nil))
        · (go_simp; refine hK _ _ ?_; clear hK)
          refine wpAnyIn_ready (rs := [5]) (by kernel_rfl) (by simp) (AllReadyIn.cons rfl (fun K hK => ?_) AllReadyIn.nil)
          · (go_simp; refine hK _ _ ?_; clear hK)
            refine wpAnyIn_ready (rs := [6]) (by kernel_rfl) (by simp) (AllReadyIn.cons rfl (fun K hK => ?_) AllReadyIn.nil)
            · (go_simp; refine hK _ _ ?_; clear hK)
              refine wpAnyIn_ready (rs := [7]) (by kernel_rfl) (by simp) (AllReadyIn.cons rfl (fun K hK => ?_) AllReadyIn.nil)
              · (refine any_append (W.drew.alloc (.cells #[.int .i64 (xa : Nat), .slice (some ⟨g, xa + 6, none⟩) xn xn] 173)) rfl _ _ 122 rfl b0 173 j0 _ 2 32 Tryz.underlying122 hj hy0 hy1 hy2 rfl (by decide) fv nf (pre.flatMap (fCells g)) rfl HOV.out ⟨W.heap.size, 0, none⟩ 1 1 [.int .i64 (xa : Nat), .slice (some ⟨g, xa + 6, none⟩) xn xn] rfl rfl (World.news_of_block (cs := #[.int .i64 (xa : Nat), .slice (some ⟨g, xa + 6, none⟩) xn xn]) (t := 173) (fr := (0, 0)) (lheap_new W.drew _)) (by simp [Value.oneCell']) (by unfold maxLen; omega) (by omega) HBV.out ?_; intro v' w5 ho5 hg5; obtain ⟨g5, cap5, rfl⟩ := ownsRow_succ ho5; obtain ⟨⟨z1, z2, z3⟩, f1, f2, f3⟩ := HPush.out _ w5 ho5 hg5; have HS : Hid (KeepsOthers W (w5.setCell ⟨p, 4, none⟩ (.slice (some ⟨g5, 0, none⟩) (nf + 1) cap5)) ∧ Holds (fun k => k = Br + 1 ∨ k = Br ∨ k = g) W (w5.setCell ⟨p, 4, none⟩ (.slice (some ⟨g5, 0, none⟩) (nf + 1) cap5)) ∧ ∃ fv, Opi w2 m.p b0 p (p + 1) g leb np fv (pre ++ [x]) (w5.setCell ⟨p, 4, none⟩ (.slice (some ⟨g5, 0, none⟩) (nf + 1) cap5))) := ⟨f1, f2, _, f3⟩; clear f1 f2 f3 ho5 hg5; refine hK _ _ ?_; clear hK)
                (refine wpAnyIn_take (i := 8) (v := ?_) rfl rfl (by kernel_rfl) (by kernel_rfl) (by kernel_rfl) (fun _ _ _ h => h) ⟨Or.inl ⟨by rfl, ?_⟩, fun _ => rfl⟩ ?_; rotate_left; (focus (intro w; go_simp; (try with_reducible rfl))))
                (refine wpAnyIn_take (i := 9) (v := ?_) rfl rfl (by kernel_rfl) (by kernel_rfl) (by kernel_rfl) (fun _ _ _ h => h) ⟨Or.inl ⟨by rfl, ?_⟩, fun _ => rfl⟩ ?_; rotate_left; (focus (intro w; go_simp; (try with_reducible rfl))))
                refine wpAnyIn_ready (rs := [10]) (by kernel_rfl) (by simp) (AllReadyIn.cons rfl (fun K hK => ?_) AllReadyIn.nil)
                · (go_simp; refine hK _ _ ?_; clear hK)
                  refine wpAnyIn_done (by kernel_rfl) ?_ _
                  exact HS.out
        · (go_simp; refine hK _ _ ?_; clear hK)
          refine wpAnyIn_ready (rs := [4, 6]) (by kernel_rfl) (by simp) (AllReadyIn.cons rfl (fun K hK => ?_) (AllReadyIn.cons rfl (fun K hK => ?_) AllReadyIn.nil))
          · (go_simp; refine hK _ _ ?_; clear hK)
            refine wpAnyIn_ready (rs := [6]) (by kernel_rfl) (by simp) (AllReadyIn.cons rfl (fun K hK => ?_) AllReadyIn.nil)
            · (go_simp; refine hK _ _ ?_; clear hK)
              refine wpAnyIn_ready (rs := [7]) (by kernel_rfl) (by simp) (AllReadyIn.cons rfl (fun K hK => ?_) AllReadyIn.nil)
              · (refine any_append (W.drew.alloc (.cells #[.int .i64 (xa : Nat), .slice (some ⟨g, xa + 6, none⟩) xn xn] 173)) rfl _ _ 122 rfl b0 173 j0 _ 2 32 Tryz.underlying122 hj hy0 hy1 hy2 rfl (by decide) fv nf (pre.flatMap (fCells g)) rfl HOV.out ⟨W.heap.size, 0, none⟩ 1 1 [.int .i64 (xa : Nat), .slice (some ⟨g, xa + 6, none⟩) xn xn] rfl rfl (World.news_of_block (cs := #[.int .i64 (xa : Nat), .slice (some ⟨g, xa + 6, none⟩) xn xn]) (t := 173) (fr := (0, 0)) (lheap_new W.drew _)) (by simp [Value.oneCell']) (by unfold maxLen; omega) (by omega) HBV.out ?_; intro v' w5 ho5 hg5; obtain ⟨g5, cap5, rfl⟩ := ownsRow_succ ho5; obtain ⟨⟨z1, z2, z3⟩, f1, f2, f3⟩ := HPush.out _ w5 ho5 hg5; have HS : Hid (KeepsOthers W (w5.setCell ⟨p, 4, none⟩ (.slice (some ⟨g5, 0, none⟩) (nf + 1) cap5)) ∧ Holds (fun k => k = Br + 1 ∨ k = Br ∨ k = g) W (w5.setCell ⟨p, 4, none⟩ (.slice (some ⟨g5, 0, none⟩) (nf + 1) cap5)) ∧ ∃ fv, Opi w2 m.p b0 p (p + 1) g leb np fv (pre ++ [x]) (w5.setCell ⟨p, 4, none⟩ (.slice (some ⟨g5, 0, none⟩) (nf + 1) cap5))) := ⟨f1, f2, _, f3⟩; clear f1 f2 f3 ho5 hg5; refine hK _ _ ?_; clear hK)
                (refine wpAnyIn_take (i := 8) (v := ?_) rfl rfl (by kernel_rfl) (by kernel_rfl) (by kernel_rfl) (fun _ _ _ h => h) ⟨Or.inl ⟨by rfl, ?_⟩, fun _ => rfl⟩ ?_; rotate_left; (focus (intro w; go_simp; (try with_reducible rfl))))
                (refine wpAnyIn_take (i := 9) (v := ?_) rfl rfl (by kernel_rfl) (by kernel_rfl) (by kernel_rfl) (fun _ _ _ h => h) ⟨Or.inl ⟨by rfl, ?_⟩, fun _ => rfl⟩ ?_; rotate_left; (focus (intro w; go_simp; (try with_reducible rfl))))
                refine wpAnyIn_ready (rs := [10]) (by kernel_rfl) (by simp) (AllReadyIn.cons rfl (fun K hK => ?_) AllReadyIn.nil)
                · (go_simp; refine hK _ _ ?_; clear hK)
                  refine wpAnyIn_done (by kernel_rfl) ?_ _
                  exact HS.out
          · (go_simp; refine hK _ _ ?_; clear hK)
            refine wpAnyIn_ready (rs := [4]) (by kernel_rfl) (by simp) (AllReadyIn.cons rfl (fun K hK => ?_) AllReadyIn.nil)
            · (go_simp; refine hK _ _ ?_; clear hK)
              refine wpAnyIn_ready (rs := [7]) (by kernel_rfl) (by simp) (AllReadyIn.cons rfl (fun K hK => ?_) AllReadyIn.nil)
              · (refine any_append (W.drew.alloc (.cells #[.int .i64 (xa : Nat), .slice (some ⟨g, xa + 6, none⟩) xn xn] 173)) rfl _ _ 122 rfl b0 173 j0 _ 2 32 Tryz.underlying122 hj hy0 hy1 hy2 rfl (by decide) fv nf (pre.flatMap (fCells g)) rfl HOV.out ⟨W.heap.size, 0, none⟩ 1 1 [.int .i64 (xa : Nat), .slice (some ⟨g, xa + 6, none⟩) xn xn] rfl rfl (World.news_of_block (cs := #[.int .i64 (xa : Nat), .slice (some ⟨g, xa + 6, none⟩) xn xn]) (t := 173) (fr := (0, 0)) (lheap_new W.drew _)) (by simp [Value.oneCell']) (by unfold maxLen; omega) (by omega) HBV.out ?_; intro v' w5 ho5 hg5; obtain ⟨g5, cap5, rfl⟩ := ownsRow_succ ho5; obtain ⟨⟨z1, z2, z3⟩, f1, f2, f3⟩ := HPush.out _ w5 ho5 hg5; have HS : Hid (KeepsOthers W (w5.setCell ⟨p, 4, none⟩ (.slice (some ⟨g5, 0, none⟩) (nf + 1) cap5)) ∧ Holds (fun k => k = Br + 1 ∨ k = Br ∨ k = g) W (w5.setCell ⟨p, 4, none⟩ (.slice (some ⟨g5, 0, none⟩) (nf + 1) cap5)) ∧ ∃ fv, Opi w2 m.p b0 p (p + 1) g leb np fv (pre ++ [x]) (w5.setCell ⟨p, 4, none⟩ (.slice (some ⟨g5, 0, none⟩) (nf + 1) cap5))) := ⟨f1, f2, _, f3⟩; clear f1 f2 f3 ho5 hg5; refine hK _ _ ?_; clear hK)
                (refine wpAnyIn_take (i := 8) (v := ?_) rfl rfl (by kernel_rfl) (by kernel_rfl) (by kernel_rfl) (fun _ _ _ h => h) ⟨Or.inl ⟨by rfl, ?_⟩, fun _ => rfl⟩ ?_; rotate_left; (focus (intro w; go_simp; (try with_reducible rfl))))
                (refine wpAnyIn_take (i := 9) (v := ?_) rfl rfl (by kernel_rfl) (by kernel_rfl) (by kernel_rfl) (fun _ _ _ h => h) ⟨Or.inl ⟨by rfl, ?_⟩, fun _ => rfl⟩ ?_; rotate_left; (focus (intro w; go_simp; (try with_reducible rfl))))
                refine wpAnyIn_ready (rs := [10]) (by kernel_rfl) (by simp) (AllReadyIn.cons rfl (fun K hK => ?_) AllReadyIn.nil)
                · (go_simp; refine hK _ _ ?_; clear hK)
                  refine wpAnyIn_done (by kernel_rfl) ?_ _
                  exact HS.out
      · (go_simp; refine hK _ _ ?_; clear hK)
        refine wpAnyIn_ready (rs := [1, 6]) (by kernel_rfl) (by simp) (AllReadyIn.cons rfl (fun K hK => ?_) (AllReadyIn.cons rfl (fun K hK => ?_) AllReadyIn.nil))
        · (go_simp; refine hK _ _ ?_; clear hK)
          (refine wpAnyIn_take (i := 2) (v := ?_) rfl rfl (by kernel_rfl) (by kernel_rfl) (by kernel_rfl) (fun _ _ _ h => h) ⟨Or.inl ⟨by rfl, ?_⟩, fun _ => rfl⟩ ?_; rotate_left; (focus (intro w; go_simp; (try with_reducible rfl))))
          (refine wpAnyIn_take (i := 3) (v := ?_) rfl rfl (by kernel_rfl) (by kernel_rfl) (by kernel_rfl) (fun _ _ _ h => h) ⟨Or.inl ⟨by rfl, ?_⟩, fun _ => rfl⟩ ?_; rotate_left; (focus (intro w; go_simp; (try with_reducible rfl))))
          refine wpAnyIn_ready (rs := [4, 6]) (by kernel_rfl) (by simp) (AllReadyIn.cons rfl (fun K hK => ?_) (AllReadyIn.cons rfl (fun K hK => ?_) AllReadyIn.nil))
          · (go_simp; refine hK _ _ ?_; clear hK)
            refine wpAnyIn_ready (rs := [6]) (by kernel_rfl) (by simp) (AllReadyIn.cons rfl (fun K hK => ?_) AllReadyIn.nil)
            · (go_simp; refine hK _ _ ?_; clear hK)
              refine wpAnyIn_ready (rs := [7]) (by kernel_rfl) (by simp) (AllReadyIn.cons rfl (fun K hK => ?_) AllReadyIn.nil)
              · (refine any_append (W.drew.alloc (.cells #[.int .i64 (xa : Nat), .slice (some ⟨g, xa + 6, none⟩) xn xn] 173)) rfl _ _ 122 rfl b0 173 j0 _ 2 32 Tryz.underlying122 hj hy0 hy1 hy2 rfl (by decide) fv nf (pre.flatMap (fCells g)) rfl HOV.out ⟨W.heap.size, 0, none⟩ 1 1 [.int .i64 (xa : Nat), .slice (some ⟨g, xa + 6, none⟩) xn xn] rfl rfl (World.news_of_block (cs := #[.int .i64 (xa : Nat), .slice (some ⟨g, xa + 6, none⟩) xn xn]) (t := 173) (fr := (0, 0)) (lheap_new W.drew _)) (by simp [Value.oneCell']) (by unfold maxLen; omega) (by omega) HBV.out ?_; intro v' w5 ho5 hg5; obtain ⟨g5, cap5, rfl⟩ := ownsRow_succ ho5; obtain ⟨⟨z1, z2, z3⟩, f1, f2, f3⟩ := HPush.out _ w5 ho5 hg5; have HS : Hid (KeepsOthers W (w5.setCell ⟨p, 4, none⟩ (.slice (some ⟨g5, 0, none⟩) (nf + 1) cap5)) ∧ Holds (fun k => k = Br + 1 ∨ k = Br ∨ k = g) W (w5.setCell ⟨p, 4, none⟩ (.slice (some ⟨g5, 0, none⟩) (nf + 1) cap5)) ∧ ∃ fv, Opi w2 m.p b0 p (p + 1) g leb np fv (pre ++ [x]) (w5.setCell ⟨p, 4, none⟩ (.slice (some ⟨g5, 0, none⟩) (nf + 1) cap5))) := ⟨f1, f2, _, f3⟩; clear f1 f2 f3 ho5 hg5; refine hK _ _ ?_; clear hK)
                (refine wpAnyIn_take (i := 8) (v := ?_) rfl rfl (by kernel_rfl) (by kernel_rfl) (by kernel_rfl) (fun _ _ _ h => h) ⟨Or.inl ⟨by rfl, ?_⟩, fun _ => rfl⟩ ?_; rotate_left; (focus (intro w; go_simp; (try with_reducible rfl))))
                (refine wpAnyIn_take (i := 9) (v := ?_) rfl rfl (by kernel_rfl) (by kernel_rfl) (by kernel_rfl) (fun _ _ _ h => h) ⟨Or.inl ⟨by rfl, ?_⟩, fun _ => rfl⟩ ?_; rotate_left; (focus (intro w; go_simp; (try with_reducible rfl))))
                refine wpAnyIn_ready (rs := [10]) (by kernel_rfl) (by simp) (AllReadyIn.cons rfl (fun K hK => ?_) AllReadyIn.nil)
                · (go_simp; refine hK _ _ ?_; clear hK)
                  refine wpAnyIn_done (by kernel_rfl) ?_ _
                  exact HS.out
          · (go_simp; refine hK _ _ ?_; clear hK)
            refine wpAnyIn_ready (rs := [4]) (by kernel_rfl) (by simp) (AllReadyIn.cons rfl (fun K hK => ?_) AllReadyIn.nil)
            · (go_simp; refine hK _ _ ?_; clear hK)
              refine wpAnyIn_ready (rs := [7]) (by kernel_rfl) (by simp) (AllReadyIn.cons rfl (fun K hK => ?_) AllReadyIn.nil)
              · (refine any_append (W.drew.alloc (.cells #[.int .i64 (xa : Nat), .slice (some ⟨g, xa + 6, none⟩) xn xn] 173)) rfl _ _ 122 rfl b0 173 j0 _ 2 32 Tryz.underlying122 hj hy0 hy1 hy2 rfl (by decide) fv nf (pre.flatMap (fCells g)) rfl HOV.out ⟨W.heap.size, 0, none⟩ 1 1 [.int .i64 (xa : Nat), .slice (some ⟨g, xa + 6, none⟩) xn xn] rfl rfl (World.news_of_block (cs := #[.int .i64 (xa : Nat), .slice (some ⟨g, xa + 6, none⟩) xn xn]) (t := 173) (fr := (0, 0)) (lheap_new W.drew _)) (by simp [Value.oneCell']) (by unfold maxLen; omega) (by omega) HBV.out ?_; intro v' w5 ho5 hg5; obtain ⟨g5, cap5, rfl⟩ := ownsRow_succ ho5; obtain ⟨⟨z1, z2, z3⟩, f1, f2, f3⟩ := HPush.out _ w5 ho5 hg5; have HS : Hid (KeepsOthers W (w5.setCell ⟨p, 4, none⟩ (.slice (some ⟨g5, 0, none⟩) (nf + 1) cap5)) ∧ Holds (fun k => k = Br + 1 ∨ k = Br ∨ k = g) W (w5.setCell ⟨p, 4, none⟩ (.slice (some ⟨g5, 0, none⟩) (nf + 1) cap5)) ∧ ∃ fv, Opi w2 m.p b0 p (p + 1) g leb np fv (pre ++ [x]) (w5.setCell ⟨p, 4, none⟩ (.slice (some ⟨g5, 0, none⟩) (nf + 1) cap5))) := ⟨f1, f2, _, f3⟩; clear f1 f2 f3 ho5 hg5; refine hK _ _ ?_; clear hK)
                (refine wpAnyIn_take (i := 8) (v := ?_) rfl rfl (by kernel_rfl) (by kernel_rfl) (by kernel_rfl) (fun _ _ _ h => h) ⟨Or.inl ⟨by rfl, ?_⟩, fun _ => rfl⟩ ?_; rotate_left; (focus (intro w; go_simp; (try with_reducible rfl))))
                (refine wpAnyIn_take (i := 9) (v := ?_) rfl rfl (by kernel_rfl) (by kernel_rfl) (by kernel_rfl) (fun _ _ _ h => h) ⟨Or.inl ⟨by rfl, ?_⟩, fun _ => rfl⟩ ?_; rotate_left; (focus (intro w; go_simp; (try with_reducible rfl))))
                refine wpAnyIn_ready (rs := [10]) (by kernel_rfl) (by simp) (AllReadyIn.cons rfl (fun K hK => ?_) AllReadyIn.nil)
                · (go_simp; refine hK _ _ ?_; clear hK)
                  refine wpAnyIn_done (by kernel_rfl) ?_ _
                  exact HS.out
        · (go_simp; refine hK _ _ ?_; clear hK)
          refine wpAnyIn_ready (rs := [1]) (by kernel_rfl) (by simp) (AllReadyIn.cons rfl (fun K hK => ?_) AllReadyIn.nil)
          · (go_simp; refine hK _ _ ?_; clear hK)
            (refine wpAnyIn_take (i := 2) (v := ?_) rfl rfl (by kernel_rfl) (by kernel_rfl) (by kernel_rfl) (fun _ _ _ h => h) ⟨Or.inl ⟨by rfl, ?_⟩, fun _ => rfl⟩ ?_; rotate_left; (focus (intro w; go_simp; (try with_reducible rfl))))
            (refine wpAnyIn_take (i := 3) (v := ?_) rfl rfl (by kernel_rfl) (by kernel_rfl) (by kernel_rfl) (fun _ _ _ h => h) ⟨Or.inl ⟨by rfl, ?_⟩, fun _ => rfl⟩ ?_; rotate_left; (focus (intro w; go_simp; (try with_reducible rfl))))
            refine wpAnyIn_ready (rs := [4]) (by kernel_rfl) (by simp) (AllReadyIn.cons rfl (fun K hK => ?_) AllReadyIn.nil)
            · (go_simp; refine hK _ _ ?_; clear hK)
              refine wpAnyIn_ready (rs := [7]) (by kernel_rfl) (by simp) (AllReadyIn.cons rfl (fun K hK => ?_) AllReadyIn.nil)
              · (refine any_append (W.drew.alloc (.cells #[.int .i64 (xa : Nat), .slice (some ⟨g, xa + 6, none⟩) xn xn] 173)) rfl _ _ 122 rfl b0 173 j0 _ 2 32 Tryz.underlying122 hj hy0 hy1 hy2 rfl (by decide) fv nf (pre.flatMap (fCells g)) rfl HOV.out ⟨W.heap.size, 0, none⟩ 1 1 [.int .i64 (xa : Nat), .slice (some ⟨g, xa + 6, none⟩) xn xn] rfl rfl (World.news_of_block (cs := #[.int .i64 (xa : Nat), .slice (some ⟨g, xa + 6, none⟩) xn xn]) (t := 173) (fr := (0, 0)) (lheap_new W.drew _)) (by simp [Value.oneCell']) (by unfold maxLen; omega) (by omega) HBV.out ?_; intro v' w5 ho5 hg5; obtain ⟨g5, cap5, rfl⟩ := ownsRow_succ ho5; obtain ⟨⟨z1, z2, z3⟩, f1, f2, f3⟩ := HPush.out _ w5 ho5 hg5; have HS : Hid (KeepsOthers W (w5.setCell ⟨p, 4, none⟩ (.slice (some ⟨g5, 0, none⟩) (nf + 1) cap5)) ∧ Holds (fun k => k = Br + 1 ∨ k = Br ∨ k = g) W (w5.setCell ⟨p, 4, none⟩ (.slice (some ⟨g5, 0, none⟩) (nf + 1) cap5)) ∧ ∃ fv, Opi w2 m.p b0 p (p + 1) g leb np fv (pre ++ [x]) (w5.setCell ⟨p, 4, none⟩ (.slice (some ⟨g5, 0, none⟩) (nf + 1) cap5))) := ⟨f1, f2, _, f3⟩; clear f1 f2 f3 ho5 hg5; refine hK _ _ ?_; clear hK)
                (refine wpAnyIn_take (i := 8) (v := ?_) rfl rfl (by kernel_rfl) (by kernel_rfl) (by kernel_rfl) (fun _ _ _ h => h) ⟨Or.inl ⟨by rfl, ?_⟩, fun _ => rfl⟩ ?_; rotate_left; (focus (intro w; go_simp; (try with_reducible rfl))))
                (refine wpAnyIn_take (i := 9) (v := ?_) rfl rfl (by kernel_rfl) (by kernel_rfl) (by kernel_rfl) (fun _ _ _ h => h) ⟨Or.inl ⟨by rfl, ?_⟩, fun _ => rfl⟩ ?_; rotate_left; (focus (intro w; go_simp; (try with_reducible rfl))))
                refine wpAnyIn_ready (rs := [10]) (by kernel_rfl) (by simp) (AllReadyIn.cons rfl (fun K hK => ?_) AllReadyIn.nil)
                · (go_simp; refine hK _ _ ?_; clear hK)
                  refine wpAnyIn_done (by kernel_rfl) ?_ _
                  exact HS.out
    · (go_simp; refine hK _ _ ?_; clear hK)
      (refine wpAnyIn_take (i := 2) (v := ?_) rfl rfl (by kernel_rfl) (by kernel_rfl) (by kernel_rfl) (fun _ _ _ h => h) ⟨Or.inl ⟨by rfl, ?_⟩, fun _ => rfl⟩ ?_; rotate_left; (focus (intro w; go_simp; (try with_reducible rfl))))
      (refine wpAnyIn_take (i := 3) (v := ?_) rfl rfl (by kernel_rfl) (by kernel_rfl) (by kernel_rfl) (fun _ _ _ h => h) ⟨Or.inl ⟨by rfl, ?_⟩, fun _ => rfl⟩ ?_; rotate_left; (focus (intro w; go_simp; (try with_reducible rfl))))
      refine wpAnyIn_ready (rs := [0, 4, 5]) (by kernel_rfl) (by simp) (AllReadyIn.cons rfl (fun K hK => ?_) (AllReadyIn.cons rfl (fun K hK => ?_) (AllReadyIn.cons rfl (fun K hK => ?_) AllReadyIn.nil)))
      · (go_simp; refine hK _ _ ?_; clear hK)
        refine wpAnyIn_ready (rs := [4, 5]) (by kernel_rfl) (by simp) (AllReadyIn.cons rfl (fun K hK => ?_) (AllReadyIn.cons rfl (fun K hK => ?_) AllReadyIn.nil))
        · (go_simp; refine hK _ _ ?_; clear hK)
          refine wpAnyIn_ready (rs := [5]) (by kernel_rfl) (by simp) (AllReadyIn.cons rfl (fun K hK => ?_) AllReadyIn.nil)
          · (go_simp; refine hK _ _ ?_; clear hK)
            refine wpAnyIn_ready (rs := [6]) (by kernel_rfl) (by simp) (AllReadyIn.cons rfl (fun K hK => ?_) AllReadyIn.nil)
            · (go_simp; refine hK _ _ ?_; clear hK)
              refine wpAnyIn_ready (rs := [7]) (by kernel_rfl) (by simp) (AllReadyIn.cons rfl (fun K hK => ?_) AllReadyIn.nil)
              · (refine any_append (W.drew.alloc (.cells #[.int .i64 (xa : Nat), .slice (some ⟨g, xa + 6, none⟩) xn xn] 173)) rfl _ _ 122 rfl b0 173 j0 _ 2 32 Tryz.underlying122 hj hy0 hy1 hy2 rfl (by decide) fv nf (pre.flatMap (fCells g)) rfl HOV.out ⟨W.heap.size, 0, none⟩ 1 1 [.int .i64 (xa : Nat), .slice (some ⟨g, xa + 6, none⟩) xn xn] rfl rfl (World.news_of_block (cs := #[.int .i64 (xa : Nat), .slice (some ⟨g, xa + 6, none⟩) xn xn]) (t := 173) (fr := (0, 0)) (lheap_new W.drew _)) (by simp [Value.oneCell']) (by unfold maxLen; omega) (by omega) HBV.out ?_; intro v' w5 ho5 hg5; obtain ⟨g5, cap5, rfl⟩ := ownsRow_succ ho5; obtain ⟨⟨z1, z2, z3⟩, f1, f2, f3⟩ := HPush.out _ w5 ho5 hg5; have HS : Hid (KeepsOthers W (w5.setCell ⟨p, 4, none⟩ (.slice (some ⟨g5, 0, none⟩) (nf + 1) cap5)) ∧ Holds (fun k => k = Br + 1 ∨ k = Br ∨ k = g) W (w5.setCell ⟨p, 4, none⟩ (.slice (some ⟨g5, 0, none⟩) (nf + 1) cap5)) ∧ ∃ fv, Opi w2 m.p b0 p (p + 1) g leb np fv (pre ++ [x]) (w5.setCell ⟨p, 4, none⟩ (.slice (some ⟨g5, 0, none⟩) (nf + 1) cap5))) := ⟨f1, f2, _, f3⟩; clear f1 f2 f3 ho5 hg5; refine hK _ _ ?_; clear hK)
                (refine wpAnyIn_take (i := 8) (v := ?_) rfl rfl (by kernel_rfl) (by kernel_rfl) (by kernel_rfl) (fun _ _ _ h => h) ⟨Or.inl ⟨by rfl, ?_⟩, fun _ => rfl⟩ ?_; rotate_left; (focus (intro w; go_simp; (try with_reducible rfl))))
                (refine wpAnyIn_take (i := 9) (v := ?_) rfl rfl (by kernel_rfl) (by kernel_rfl) (by kernel_rfl) (fun _ _ _ h => h) ⟨Or.inl ⟨by rfl, ?_⟩, fun _ => rfl⟩ ?_; rotate_left; (focus (intro w; go_simp; (try with_reducible rfl))))
                refine wpAnyIn_ready (rs := [10]) (by kernel_rfl) (by simp) (AllReadyIn.cons rfl (fun K hK => ?_) AllReadyIn.nil)
                · (go_simp; refine hK _ _ ?_; clear hK)
                  refine wpAnyIn_done (by kernel_rfl) ?_ _
                  exact HS.out
        · (go_simp; refine hK _ _ ?_; clear hK)
          refine wpAnyIn_ready (rs := [4, 6]) (by kernel_rfl) (by simp) (AllReadyIn.cons rfl (fun K hK => ?_) (AllReadyIn.cons rfl (fun K hK => ?_) AllReadyIn.nil))
          · (go_simp; refine hK _ _ ?_; clear hK)
            refine wpAnyIn_ready (rs := [6]) (by kernel_rfl) (by simp) (AllReadyIn.cons rfl (fun K hK => ?_) AllReadyIn.nil)
            · (go_simp; refine hK _ _ ?_; clear hK)
              refine wpAnyIn_ready (rs := [7]) (by kernel_rfl) (by simp) (AllReadyIn.cons rfl (fun K hK => ?_) AllReadyIn.nil)
              · (refine any_append (W.drew.alloc (.cells #[.int .i64 (xa : Nat), .slice (some ⟨g, xa + 6, none⟩) xn xn] 173)) rfl _ _ 122 rfl b0 173 j0 _ 2 32 Tryz.underlying122 hj hy0 hy1 hy2 rfl (by decide) fv nf (pre.flatMap (fCells g)) rfl HOV.out ⟨W.heap.size, 0, none⟩ 1 1 [.int .i64 (xa : Nat), .slice (some ⟨g, xa + 6, none⟩) xn xn] rfl rfl (World.news_of_block (cs := #[.int .i64 (xa : Nat), .slice (some ⟨g, xa + 6, none⟩) xn xn]) (t := 173) (fr := (0, 0)) (lheap_new W.drew _)) (by simp [Value.oneCell']) (by unfold maxLen; omega) (by omega) HBV.out ?_; intro v' w5 ho5 hg5; obtain ⟨g5, cap5, rfl⟩ := ownsRow_succ ho5; obtain ⟨⟨z1, z2, z3⟩, f1, f2, f3⟩ := HPush.out _ w5 ho5 hg5; have HS : Hid (KeepsOthers W (w5.setCell ⟨p, 4, none⟩ (.slice (some ⟨g5, 0, none⟩) (nf + 1) cap5)) ∧ Holds (fun k => k = Br + 1 ∨ k = Br ∨ k = g) W (w5.setCell ⟨p, 4, none⟩ (.slice (some ⟨g5, 0, none⟩) (nf + 1) cap5)) ∧ ∃ fv, Opi w2 m.p b0 p (p + 1) g leb np fv (pre ++ [x]) (w5.setCell ⟨p, 4, none⟩ (.slice (some ⟨g5, 0, none⟩) (nf + 1) cap5))) := ⟨f1, f2, _, f3⟩; clear f1 f2 f3 ho5 hg5; refine hK _ _ ?_; clear hK)
                (refine wpAnyIn_take (i := 8) (v := ?_) rfl rfl (by kernel_rfl) (by kernel_rfl) (by kernel_rfl) (fun _ _ _ h => h) ⟨Or.inl ⟨by rfl, ?_⟩, fun _ => rfl⟩ ?_; rotate_left; (focus (intro w; go_simp; (try with_reducible rfl))))
                (refine wpAnyIn_take (i := 9) (v := ?_) rfl rfl (by kernel_rfl) (by kernel_rfl) (by kernel_rfl) (fun _ _ _ h => h) ⟨Or.inl ⟨by rfl, ?_⟩, fun _ => rfl⟩ ?_; rotate_left; (focus (intro w; go_simp; (try with_reducible rfl))))
                refine wpAnyIn_ready (rs := [10]) (by kernel_rfl) (by simp) (AllReadyIn.cons rfl (fun K hK => ?_) AllReadyIn.nil)
                · (go_simp; refine hK _ _ ?_; clear hK)
                  refine wpAnyIn_done (by kernel_rfl) ?_ _
                  exact HS.out
          · (go_simp; refine hK _ _ ?_; clear hK)
            refine wpAnyIn_ready (rs := [4]) (by kernel_rfl) (by simp) (AllReadyIn.cons rfl (fun K hK => ?_) AllReadyIn.nil)
            · (go_simp; refine hK _ _ ?_; clear hK)
              refine wpAnyIn_ready (rs := [7]) (by kernel_rfl) (by simp) (AllReadyIn.cons rfl (fun K hK => ?_) AllReadyIn.nil)
              · (refine any_append (W.drew.alloc (.cells #[.int .i64 (xa : Nat), .slice (some ⟨g, xa + 6, none⟩) xn xn] 173)) rfl _ _ 122 rfl b0 173 j0 _ 2 32 Tryz.underlying122 hj hy0 hy1 hy2 rfl (by decide) fv nf (pre.flatMap (fCells g)) rfl HOV.out ⟨W.heap.size, 0, none⟩ 1 1 [.int .i64 (xa : Nat), .slice (some ⟨g, xa + 6, none⟩) xn xn] rfl rfl (World.news_of_block (cs := #[.int .i64 (xa : Nat), .slice (some ⟨g, xa + 6, none⟩) xn xn]) (t := 173) (fr := (0, 0)) (lheap_new W.drew _)) (by simp [Value.oneCell']) (by unfold maxLen; omega) (by omega) HBV.out ?_; intro v' w5 ho5 hg5; obtain ⟨g5, cap5, rfl⟩ := ownsRow_succ ho5; obtain ⟨⟨z1, z2, z3⟩, f1, f2, f3⟩ := HPush.out _ w5 ho5 hg5; have HS : Hid (KeepsOthers W (w5.setCell ⟨p, 4, none⟩ (.slice (some ⟨g5, 0, none⟩) (nf + 1) cap5)) ∧ Holds (fun k => k = Br + 1 ∨ k = Br ∨ k = g) W (w5.setCell ⟨p, 4, none⟩ (.slice (some ⟨g5, 0, none⟩) (nf + 1) cap5)) ∧ ∃ fv, Opi w2 m.p b0 p (p + 1) g leb np fv (pre ++ [x]) (w5.setCell ⟨p, 4, none⟩ (.slice (some ⟨g5, 0, none⟩) (nf + 1) cap5))) := ⟨f1, f2, _, f3⟩; clear f1 f2 f3 ho5 hg5; refine hK _ _ ?_; clear hK)
                (refine wpAnyIn_take (i := 8) (v := ?_) rfl rfl (by kernel_rfl) (by kernel_rfl) (by kernel_rfl) (fun _ _ _ h => h) ⟨Or.inl ⟨by rfl, ?_⟩, fun _ => rfl⟩ ?_; rotate_left; (focus (intro w; go_simp; (try with_reducible rfl))))
                (refine wpAnyIn_take (i := 9) (v := ?_) rfl rfl (by kernel_rfl) (by kernel_rfl) (by kernel_rfl) (fun _ _ _ h => h) ⟨Or.inl ⟨by rfl, ?_⟩, fun _ => rfl⟩ ?_; rotate_left; (focus (intro w; go_simp; (try with_reducible rfl))))
                refine wpAnyIn_ready (rs := [10]) (by kernel_rfl) (by simp) (AllReadyIn.cons rfl (fun K hK => ?_) AllReadyIn.nil)
                · (go_simp; refine hK _ _ ?_; clear hK)
                  refine wpAnyIn_done (by kernel_rfl) ?_ _
                  exact HS.out
      · (go_simp; refine hK _ _ ?_; clear hK)
        refine wpAnyIn_ready (rs := [0, 5]) (by kernel_rfl) (by simp) (AllReadyIn.cons rfl (fun K hK => ?_) (AllReadyIn.cons rfl (fun K hK => ?_) AllReadyIn.nil))
        · (go_simp; refine hK _ _ ?_; clear hK)
          refine wpAnyIn_ready (rs := [5]) (by kernel_rfl) (by simp) (AllReadyIn.cons rfl (fun K hK => ?_) AllReadyIn.nil)
          · (go_simp; refine hK _ _ ?_; clear hK)
            refine wpAnyIn_ready (rs := [6]) (by kernel_rfl) (by simp) (AllReadyIn.cons rfl (fun K hK => ?_) AllReadyIn.nil)
            · (go_simp; refine hK _ _ ?_; clear hK)
              refine wpAnyIn_ready (rs := [7]) (by kernel_rfl) (by simp) (AllReadyIn.cons rfl (fun K hK => ?_) AllReadyIn.nil)
              · (refine any_append (W.drew.alloc (.cells #[.int .i64 (xa : Nat), .slice (some ⟨g, xa + 6, none⟩) xn xn] 173)) rfl _ _ 122 rfl b0 173 j0 _ 2 32 Tryz.underlying122 hj hy0 hy1 hy2 rfl (by decide) fv nf (pre.flatMap (fCells g)) rfl HOV.out ⟨W.heap.size, 0, none⟩ 1 1 [.int .i64 (xa : Nat), .slice (some ⟨g, xa + 6, none⟩) xn xn] rfl rfl (World.news_of_block (cs := #[.int .i64 (xa : Nat), .slice (some ⟨g, xa + 6, none⟩) xn xn]) (t := 173) (fr := (0, 0)) (lheap_new W.drew _)) (by simp [Value.oneCell']) (by unfold maxLen; omega) (by omega) HBV.out ?_; intro v' w5 ho5 hg5; obtain ⟨g5, cap5, rfl⟩ := ownsRow_succ ho5; obtain ⟨⟨z1, z2, z3⟩, f1, f2, f3⟩ := HPush.out _ w5 ho5 hg5; have HS : Hid (KeepsOthers W (w5.setCell ⟨p, 4, none⟩ (.slice (some ⟨g5, 0, none⟩) (nf + 1) cap5)) ∧ Holds (fun k => k = Br + 1 ∨ k = Br ∨ k = g) W (w5.setCell ⟨p, 4, none⟩ (.slice (some ⟨g5, 0, none⟩) (nf + 1) cap5)) ∧ ∃ fv, Opi w2 m.p b0 p (p + 1) g leb np fv (pre ++ [x]) (w5.setCell ⟨p, 4, none⟩ (.slice (some ⟨g5, 0, none⟩) (nf + 1) cap5))) := ⟨f1, f2, _, f3⟩; clear f1 f2 f3 ho5 hg5; refine hK _ _ ?_; clear hK)
                (refine wpAnyIn_take (i := 8) (v := ?_) rfl rfl (by kernel_rfl) (by kernel_rfl) (by kernel_rfl) (fun _ _ _ h => h) ⟨Or.inl ⟨by rfl, ?_⟩, fun _ => rfl⟩ ?_; rotate_left; (focus (intro w; go_simp; (try with_reducible rfl))))
                (refine wpAnyIn_take (i := 9) (v := ?_) rfl rfl (by kernel_rfl) (by kernel_rfl) (by kernel_rfl) (fun _ _ _ h => h) ⟨Or.inl ⟨by rfl, ?_⟩, fun _ => rfl⟩ ?_; rotate_left; (focus (intro w; go_simp; (try with_reducible rfl))))
                refine wpAnyIn_ready (rs := [10]) (by kernel_rfl) (by simp) (AllReadyIn.cons rfl (fun K hK => ?_) AllReadyIn.nil)
                · (go_simp; refine hK _ _ ?_; clear hK)
                  refine wpAnyIn_done (by kernel_rfl) ?_ _
                  exact HS.out
        · (go_simp; refine hK _ _ ?_; clear hK)
          refine wpAnyIn_ready (rs := [0, 6]) (by kernel_rfl) (by simp) (AllReadyIn.cons rfl (fun K hK => ?_) (AllReadyIn.cons rfl (fun K hK => ?_) AllReadyIn.nil))
          · (go_simp; refine hK _ _ ?_; clear hK)
            refine wpAnyIn_ready (rs := [6]) (by kernel_rfl) (by simp) (AllReadyIn.cons rfl (fun K hK => ?_) AllReadyIn.nil)
            · (go_simp; refine hK _ _ ?_; clear hK)
              refine wpAnyIn_ready (rs := [7]) (by kernel_rfl) (by simp) (AllReadyIn.cons rfl (fun K hK => ?_) AllReadyIn.nil)
              · (refine any_append (W.drew.alloc (.cells #[.int .i64 (xa : Nat), .slice (some ⟨g, xa + 6, none⟩) xn xn] 173)) rfl _ _ 122 rfl b0 173 j0 _ 2 32 Tryz.underlying122 hj hy0 hy1 hy2 rfl (by decide) fv nf (pre.flatMap (fCells g)) rfl HOV.out ⟨W.heap.size, 0, none⟩ 1 1 [.int .i64 (xa : Nat), .slice (some ⟨g, xa + 6, none⟩) xn xn] rfl rfl (World.news_of_block (cs := #[.int .i64 (xa : Nat), .slice (some ⟨g, xa + 6, none⟩) xn xn]) (t := 173) (fr := (0, 0)) (lheap_new W.drew _)) (by simp [Value.oneCell']) (by unfold maxLen; omega) (by omega) HBV.out ?_; intro v' w5 ho5 hg5; obtain ⟨g5, cap5, rfl⟩ := ownsRow_succ ho5; obtain ⟨⟨z1, z2, z3⟩, f1, f2, f3⟩ := HPush.out _ w5 ho5 hg5; have HS : Hid (KeepsOthers W (w5.setCell ⟨p, 4, none⟩ (.slice (some ⟨g5, 0, none⟩) (nf + 1) cap5)) ∧ Holds (fun k => k = Br + 1 ∨ k = Br ∨ k = g) W (w5.setCell ⟨p, 4, none⟩ (.slice (some ⟨g5, 0, none⟩) (nf + 1) cap5)) ∧ ∃ fv, Opi w2 m.p b0 p (p + 1) g leb np fv (pre ++ [x]) (w5.setCell ⟨p, 4, none⟩ (.slice (some ⟨g5, 0, none⟩) (nf + 1) cap5))) := ⟨f1, f2, _, f3⟩; clear f1 f2 f3 ho5 hg5; refine hK _ _ ?_; clear hK)
                (refine wpAnyIn_take (i := 8) (v := ?_) rfl rfl (by kernel_rfl) (by kernel_rfl) (by kernel_rfl) (fun _ _ _ h => h) ⟨Or.inl ⟨by rfl, ?_⟩, fun _ => rfl⟩ ?_; rotate_left; (focus (intro w; go_simp; (try with_reducible rfl))))
                (refine wpAnyIn_take (i := 9) (v := ?_) rfl rfl (by kernel_rfl) (by kernel_rfl) (by kernel_rfl) (fun _ _ _ h => h) ⟨Or.inl ⟨by rfl, ?_⟩, fun _ => rfl⟩ ?_; rotate_left; (focus (intro w; go_simp; (try with_reducible rfl))))
                refine wpAnyIn_ready (rs := [10]) (by kernel_rfl) (by simp) (AllReadyIn.cons rfl (fun K hK => ?_) AllReadyIn.nil)
                · (go_simp; refine hK _ _ ?_; clear hK)
                  refine wpAnyIn_done (by kernel_rfl) ?_ _
                  exact HS.out
          · (go_simp; refine hK _ _ ?_; clear hK)
            refine wpAnyIn_ready (rs := [0, 7]) (by kernel_rfl) (by simp) (AllReadyIn.cons rfl (fun K hK => ?_) (AllReadyIn.cons rfl (fun K hK => ?_) AllReadyIn.nil))
            · (go_simp; refine hK _ _ ?_; clear hK)
              refine wpAnyIn_ready (rs := [7]) (by kernel_rfl) (by simp) (AllReadyIn.cons rfl (fun K hK => ?_) AllReadyIn.nil)
              · (refine any_append (W.drew.alloc (.cells #[.int .i64 (xa : Nat), .slice (some ⟨g, xa + 6, none⟩) xn xn] 173)) rfl _ _ 122 rfl b0 173 j0 _ 2 32 Tryz.underlying122 hj hy0 hy1 hy2 rfl (by decide) fv nf (pre.flatMap (fCells g)) rfl HOV.out ⟨W.heap.size, 0, none⟩ 1 1 [.int .i64 (xa : Nat), .slice (some ⟨g, xa + 6, none⟩) xn xn] rfl rfl (World.news_of_block (cs := #[.int .i64 (xa : Nat), .slice (some ⟨g, xa + 6, none⟩) xn xn]) (t := 173) (fr := (0, 0)) (lheap_new W.drew _)) (by simp [Value.oneCell']) (by unfold maxLen; omega) (by omega) HBV.out ?_; intro v' w5 ho5 hg5; obtain ⟨g5, cap5, rfl⟩ := ownsRow_succ ho5; obtain ⟨⟨z1, z2, z3⟩, f1, f2, f3⟩ := HPush.out _ w5 ho5 hg5; have HS : Hid (KeepsOthers W (w5.setCell ⟨p, 4, none⟩ (.slice (some ⟨g5, 0, none⟩) (nf + 1) cap5)) ∧ Holds (fun k => k = Br + 1 ∨ k = Br ∨ k = g) W (w5.setCell ⟨p, 4, none⟩ (.slice (some ⟨g5, 0, none⟩) (nf + 1) cap5)) ∧ ∃ fv, Opi w2 m.p b0 p (p + 1) g leb np fv (pre ++ [x]) (w5.setCell ⟨p, 4, none⟩ (.slice (some ⟨g5, 0, none⟩) (nf + 1) cap5))) := ⟨f1, f2, _, f3⟩; clear f1 f2 f3 ho5 hg5; refine hK _ _ ?_; clear hK)
                (refine wpAnyIn_take (i := 8) (v := ?_) rfl rfl (by kernel_rfl) (by kernel_rfl) (by kernel_rfl) (fun _ _ _ h => h) ⟨Or.inl ⟨by rfl, ?_⟩, fun _ => rfl⟩ ?_; rotate_left; (focus (intro w; go_simp; (try with_reducible rfl))))
                (refine wpAnyIn_take (i := 9) (v := ?_) rfl rfl (by kernel_rfl) (by kernel_rfl) (by kernel_rfl) (fun _ _ _ h => h) ⟨Or.inl ⟨by rfl, ?_⟩, fun _ => rfl⟩ ?_; rotate_left; (focus (intro w; go_simp; (try with_reducible rfl))))
                refine wpAnyIn_ready (rs := [10]) (by kernel_rfl) (by simp) (AllReadyIn.cons rfl (fun K hK => ?_) AllReadyIn.nil)
                · (go_simp; refine hK _ _ ?_; clear hK)
                  refine wpAnyIn_done (by kernel_rfl) ?_ _
                  exact HS.out
            · (refine any_append (W.drew.alloc (.cells #[.int .i64 (xa : Nat), .slice (some ⟨g, xa + 6, none⟩) xn xn] 173)) rfl _ _ 122 rfl b0 173 j0 _ 2 32 Tryz.underlying122 hj hy0 hy1 hy2 rfl (by decide) fv nf (pre.flatMap (fCells g)) rfl HOV.out ⟨W.heap.size, 0, none⟩ 1 1 [.int .i64 (xa : Nat), .slice (some ⟨g, xa + 6, none⟩) xn xn] rfl rfl (World.news_of_block (cs := #[.int .i64 (xa : Nat), .slice (some ⟨g, xa + 6, none⟩) xn xn]) (t := 173) (fr := (0, 0)) (lheap_new W.drew _)) (by simp [Value.oneCell']) (by unfold maxLen; omega) (by omega) HBV.out ?_; intro v' w5 ho5 hg5; obtain ⟨g5, cap5, rfl⟩ := ownsRow_succ ho5; obtain ⟨⟨z1, z2, z3⟩, f1, f2, f3⟩ := HPush.out _ w5 ho5 hg5; have HS : Hid (KeepsOthers W (w5.setCell ⟨p, 4, none⟩ (.slice (some ⟨g5, 0, none⟩) (nf + 1) cap5)) ∧ Holds (fun k => k = Br + 1 ∨ k = Br ∨ k = g) W (w5.setCell ⟨p, 4, none⟩ (.slice (some ⟨g5, 0, none⟩) (nf + 1) cap5)) ∧ ∃ fv, Opi w2 m.p b0 p (p + 1) g leb np fv (pre ++ [x]) (w5.setCell ⟨p, 4, none⟩ (.slice (some ⟨g5, 0, none⟩) (nf + 1) cap5))) := ⟨f1, f2, _, f3⟩; clear f1 f2 f3 ho5 hg5; refine hK _ _ ?_; clear hK)
              refine wpAnyIn_ready (rs := [0]) (by kernel_rfl) (by simp) (AllReadyIn.cons rfl (fun K hK => ?_) AllReadyIn.nil)
              · (go_simp; refine hK _ _ ?_; clear hK)
                (refine wpAnyIn_take (i := 8) (v := ?_) rfl rfl (by kernel_rfl) (by kernel_rfl) (by kernel_rfl) (fun _ _ _ h => h) ⟨Or.inl ⟨by rfl, ?_⟩, fun _ => rfl⟩ ?_; rotate_left; (focus (intro w; go_simp; (try with_reducible rfl))))
                (refine wpAnyIn_take (i := 9) (v := ?_) rfl rfl (by kernel_rfl) (by kernel_rfl) (by kernel_rfl) (fun _ _ _ h => h) ⟨Or.inl ⟨by rfl, ?_⟩, fun _ => rfl⟩ ?_; rotate_left; (focus (intro w; go_simp; (try with_reducible rfl))))
                refine wpAnyIn_ready (rs := [10]) (by kernel_rfl) (by simp) (AllReadyIn.cons rfl (fun K hK => ?_) AllReadyIn.nil)
                · (go_simp; refine hK _ _ ?_; clear hK)
                  refine wpAnyIn_done (by kernel_rfl) ?_ _
                  exact HS.out
      · (go_simp; refine hK _ _ ?_; clear hK)
        refine wpAnyIn_ready (rs := [0, 4, 6]) (by kernel_rfl) (by simp) (AllReadyIn.cons rfl (fun K hK => ?_) (AllReadyIn.cons rfl (fun K hK => ?_) (AllReadyIn.cons rfl (fun K hK => ?_) AllReadyIn.nil)))
        · (go_simp; refine hK _ _ ?_; clear hK)
          refine wpAnyIn_ready (rs := [4, 6]) (by kernel_rfl) (by simp) (AllReadyIn.cons rfl (fun K hK => ?_) (AllReadyIn.cons rfl (fun K hK => ?_) AllReadyIn.nil))
          · (go_simp; refine hK _ _ ?_; clear hK)
            refine wpAnyIn_ready (rs := [6]) (by kernel_rfl) (by simp) (AllReadyIn.cons rfl (fun K hK => ?_) AllReadyIn.nil)
            · (go_simp; refine hK _ _ ?_; clear hK)
              refine wpAnyIn_ready (rs := [7]) (by kernel_rfl) (by simp) (AllReadyIn.cons rfl (fun K hK => ?_) AllReadyIn.nil)
              · (refine any_append (W.drew.alloc (.cells #[.int .i64 (xa : Nat), .slice (some ⟨g, xa + 6, none⟩) xn xn] 173)) rfl _ _ 122 rfl b0 173 j0 _ 2 32 Tryz.underlying122 hj hy0 hy1 hy2 rfl (by decide) fv nf (pre.flatMap (fCells g)) rfl HOV.out ⟨W.heap.size, 0, none⟩ 1 1 [.int .i64 (xa : Nat), .slice (some ⟨g, xa + 6, none⟩) xn xn] rfl rfl (World.news_of_block (cs := #[.int .i64 (xa : Nat), .slice (some ⟨g, xa + 6, none⟩) xn xn]) (t := 173) (fr := (0, 0)) (lheap_new W.drew _)) (by simp [Value.oneCell']) (by unfold maxLen; omega) (by omega) HBV.out ?_; intro v' w5 ho5 hg5; obtain ⟨g5, cap5, rfl⟩ := ownsRow_succ ho5; obtain ⟨⟨z1, z2, z3⟩, f1, f2, f3⟩ := HPush.out _ w5 ho5 hg5; have HS : Hid (KeepsOthers W (w5.setCell ⟨p, 4, none⟩ (.slice (some ⟨g5, 0, none⟩) (nf + 1) cap5)) ∧ Holds (fun k => k = Br + 1 ∨ k = Br ∨ k = g) W (w5.setCell ⟨p, 4, none⟩ (.slice (some ⟨g5, 0, none⟩) (nf + 1) cap5)) ∧ ∃ fv, Opi w2 m.p b0 p (p + 1) g leb np fv (pre ++ [x]) (w5.setCell ⟨p, 4, none⟩ (.slice (some ⟨g5, 0, none⟩) (nf + 1) cap5))) := ⟨f1, f2, _, f3⟩; clear f1 f2 f3 ho5 hg5; refine hK _ _ ?_; clear hK)
                (refine wpAnyIn_take (i := 8) (v := ?_) rfl rfl (by kernel_rfl) (by kernel_rfl) (by kernel_rfl) (fun _ _ _ h => h) ⟨Or.inl ⟨by rfl, ?_⟩, fun _ => rfl⟩ ?_; rotate_left; (focus (intro w; go_simp; (try with_reducible rfl))))
                (refine wpAnyIn_take (i := 9) (v := ?_) rfl rfl (by kernel_rfl) (by kernel_rfl) (by kernel_rfl) (fun _ _ _ h => h) ⟨Or.inl ⟨by rfl, ?_⟩, fun _ => rfl⟩ ?_; rotate_left; (focus (intro w; go_simp; (try with_reducible rfl))))
                refine wpAnyIn_ready (rs := [10]) (by kernel_rfl) (by simp) (AllReadyIn.cons rfl (fun K hK => ?_) AllReadyIn.nil)
                · (go_simp; refine hK _ _ ?_; clear hK)
                  refine wpAnyIn_done (by kernel_rfl) ?_ _
                  exact HS.out
          · (go_simp; refine hK _ _ ?_; clear hK)
            refine wpAnyIn_ready (rs := [4]) (by kernel_rfl) (by simp) (AllReadyIn.cons rfl (fun K hK => ?_) AllReadyIn.nil)
            · (go_simp; refine hK _ _ ?_; clear hK)
              refine wpAnyIn_ready (rs := [7]) (by kernel_rfl) (by simp) (AllReadyIn.cons rfl (fun K hK => ?_) AllReadyIn.nil)
              · (refine any_append (W.drew.alloc (.cells #[.int .i64 (xa : Nat), .slice (some ⟨g, xa + 6, none⟩) xn xn] 173)) rfl _ _ 122 rfl b0 173 j0 _ 2 32 Tryz.underlying122 hj hy0 hy1 hy2 rfl (by decide) fv nf (pre.flatMap (fCells g)) rfl HOV.out ⟨W.heap.size, 0, none⟩ 1 1 [.int .i64 (xa : Nat), .slice (some ⟨g, xa + 6, none⟩) xn xn] rfl rfl (World.news_of_block (cs := #[.int .i64 (xa : Nat), .slice (some ⟨g, xa + 6, none⟩) xn xn]) (t := 173) (fr := (0, 0)) (lheap_new W.drew _)) (by simp [Value.oneCell']) (by unfold maxLen; omega) (by omega) HBV.out ?_; intro v' w5 ho5 hg5; obtain ⟨g5, cap5, rfl⟩ := ownsRow_succ ho5; obtain ⟨⟨z1, z2, z3⟩, f1, f2, f3⟩ := HPush.out _ w5 ho5 hg5; have HS : Hid (KeepsOthers W (w5.setCell ⟨p, 4, none⟩ (.slice (some ⟨g5, 0, none⟩) (nf + 1) cap5)) ∧ Holds (fun k => k = Br + 1 ∨ k = Br ∨ k = g) W (w5.setCell ⟨p, 4, none⟩ (.slice (some ⟨g5, 0, none⟩) (nf + 1) cap5)) ∧ ∃ fv, Opi w2 m.p b0 p (p + 1) g leb np fv (pre ++ [x]) (w5.setCell ⟨p, 4, none⟩ (.slice (some ⟨g5, 0, none⟩) (nf + 1) cap5))) := ⟨f1, f2, _, f3⟩; clear f1 f2 f3 ho5 hg5; refine hK _ _ ?_; clear hK)
                (refine wpAnyIn_take (i := 8) (v := ?_) rfl rfl (by kernel_rfl) (by kernel_rfl) (by kernel_rfl) (fun _ _ _ h => h) ⟨Or.inl ⟨by rfl, ?_⟩, fun _ => rfl⟩ ?_; rotate_left; (focus (intro w; go_simp; (try with_reducible rfl))))
                (refine wpAnyIn_take (i := 9) (v := ?_) rfl rfl (by kernel_rfl) (by kernel_rfl) (by kernel_rfl) (fun _ _ _ h => h) ⟨Or.inl ⟨by rfl, ?_⟩, fun _ => rfl⟩ ?_; rotate_left; (focus (intro w; go_simp; (try with_reducible rfl))))
                refine wpAnyIn_ready (rs := [10]) (by kernel_rfl) (by simp) (AllReadyIn.cons rfl (fun K hK => ?_) AllReadyIn.nil)
                · (go_simp; refine hK _ _ ?_; clear hK)
                  refine wpAnyIn_done (by kernel_rfl) ?_ _
                  exact HS.out
        · (go_simp; refine hK _ _ ?_; clear hK)
          refine wpAnyIn_ready (rs := [0, 6]) (by kernel_rfl) (by simp) (AllReadyIn.cons rfl (fun K hK => ?_) (AllReadyIn.cons rfl (fun K hK => ?_) AllReadyIn.nil))
          · (go_simp; refine hK _ _ ?_; clear hK)
            refine wpAnyIn_ready (rs := [6]) (by kernel_rfl) (by simp) (AllReadyIn.cons rfl (fun K hK => ?_) AllReadyIn.nil)
            · (go_simp; refine hK _ _ ?_; clear hK)
              refine wpAnyIn_ready (rs := [7]) (by kernel_rfl) (by simp) (AllReadyIn.cons rfl (fun K hK => ?_) AllReadyIn.nil)
              · (refine any_append (W.drew.alloc (.cells #[.int .i64 (xa : Nat), .slice (some ⟨g, xa + 6, none⟩) xn xn] 173)) rfl _ _ 122 rfl b0 173 j0 _ 2 32 Tryz.underlying122 hj hy0 hy1 hy2 rfl (by decide) fv nf (pre.flatMap (fCells g)) rfl HOV.out ⟨W.heap.size, 0, none⟩ 1 1 [.int .i64 (xa : Nat), .slice (some ⟨g, xa + 6, none⟩) xn xn] rfl rfl (World.news_of_block (cs := #[.int .i64 (xa : Nat), .slice (some ⟨g, xa + 6, none⟩) xn xn]) (t := 173) (fr := (0, 0)) (lheap_new W.drew _)) (by simp [Value.oneCell']) (by unfold maxLen; omega) (by omega) HBV.out ?_; intro v' w5 ho5 hg5; obtain ⟨g5, cap5, rfl⟩ := ownsRow_succ ho5; obtain ⟨⟨z1, z2, z3⟩, f1, f2, f3⟩ := HPush.out _ w5 ho5 hg5; have HS : Hid (KeepsOthers W (w5.setCell ⟨p, 4, none⟩ (.slice (some ⟨g5, 0, none⟩) (nf + 1) cap5)) ∧ Holds (fun k => k = Br + 1 ∨ k = Br ∨ k = g) W (w5.setCell ⟨p, 4, none⟩ (.slice (some ⟨g5, 0, none⟩) (nf + 1) cap5)) ∧ ∃ fv, Opi w2 m.p b0 p (p + 1) g leb np fv (pre ++ [x]) (w5.setCell ⟨p, 4, none⟩ (.slice (some ⟨g5, 0, none⟩) (nf + 1) cap5))) := ⟨f1, f2, _, f3⟩; clear f1 f2 f3 ho5 hg5; refine hK _ _ ?_; clear hK)
                (refine wpAnyIn_take (i := 8) (v := ?_) rfl rfl (by kernel_rfl) (by kernel_rfl) (by kernel_rfl) (fun _ _ _ h => h) ⟨Or.inl ⟨by rfl, ?_⟩, fun _ => rfl⟩ ?_; rotate_left; (focus (intro w; go_simp; (try with_reducible rfl))))
                (refine wpAnyIn_take (i := 9) (v := ?_) rfl rfl (by kernel_rfl) (by kernel_rfl) (by kernel_rfl) (fun _ _ _ h => h) ⟨Or.inl ⟨by rfl, ?_⟩, fun _ => rfl⟩ ?_; rotate_left; (focus (intro w; go_simp; (try with_reducible rfl))))
                refine wpAnyIn_ready (rs := [10]) (by kernel_rfl) (by simp) (AllReadyIn.cons rfl (fun K hK => ?_) AllReadyIn.nil)
                · (go_simp; refine hK _ _ ?_; clear hK)
                  refine wpAnyIn_done (by kernel_rfl) ?_ _
                  exact HS.out
          · (go_simp; refine hK _ _ ?_; clear hK)
            refine wpAnyIn_ready (rs := [0, 7]) (by kernel_rfl) (by simp) (AllReadyIn.cons rfl (fun K hK => ?_) (AllReadyIn.cons rfl (fun K hK => ?_) AllReadyIn.nil))
            · (go_simp; refine hK _ _ ?_; clear hK)
              refine wpAnyIn_ready (rs := [7]) (by kernel_rfl) (by simp) (AllReadyIn.cons rfl (fun K hK => ?_) AllReadyIn.nil)
              · (refine any_append (W.drew.alloc (.cells #[.int .i64 (xa : Nat), .slice (some ⟨g, xa + 6, none⟩) xn xn] 173)) rfl _ _ 122 rfl b0 173 j0 _ 2 32 Tryz.underlying122 hj hy0 hy1 hy2 rfl (by decide) fv nf (pre.flatMap (fCells g)) rfl HOV.out ⟨W.heap.size, 0, none⟩ 1 1 [.int .i64 (xa : Nat), .slice (some ⟨g, xa + 6, none⟩) xn xn] rfl rfl (World.news_of_block (cs := #[.int .i64 (xa : Nat), .slice (some ⟨g, xa + 6, none⟩) xn xn]) (t := 173) (fr := (0, 0)) (lheap_new W.drew _)) (by simp [Value.oneCell']) (by unfold maxLen; omega) (by omega) HBV.out ?_; intro v' w5 ho5 hg5; obtain ⟨g5, cap5, rfl⟩ := ownsRow_succ ho5; obtain ⟨⟨z1, z2, z3⟩, f1, f2, f3⟩ := HPush.out _ w5 ho5 hg5; have HS : Hid (KeepsOthers W (w5.setCell ⟨p, 4, none⟩ (.slice (some ⟨g5, 0, none⟩) (nf + 1) cap5)) ∧ Holds (fun k => k = Br + 1 ∨ k = Br ∨ k = g) W (w5.setCell ⟨p, 4, none⟩ (.slice (some ⟨g5, 0, none⟩) (nf + 1) cap5)) ∧ ∃ fv, Opi w2 m.p b0 p (p + 1) g leb np fv (pre ++ [x]) (w5.setCell ⟨p, 4, none⟩ (.slice (some ⟨g5, 0, none⟩) (nf + 1) cap5))) := ⟨f1, f2, _, f3⟩; clear f1 f2 f3 ho5 hg5; refine hK _ _ ?_; clear hK)
                (refine wpAnyIn_take (i := 8) (v := ?_) rfl rfl (by kernel_rfl) (by kernel_rfl) (by kernel_rfl) (fun _ _ _ h => h) ⟨Or.inl ⟨by rfl, ?_⟩, fun _ => rfl⟩ ?_; rotate_left; (focus (intro w; go_simp; (try with_reducible rfl))))
                (refine wpAnyIn_take (i := 9) (v := ?_) rfl rfl (by kernel_rfl) (by kernel_rfl) (by kernel_rfl) (fun _ _ _ h => h) ⟨Or.inl ⟨by rfl, ?_⟩, fun _ => rfl⟩ ?_; rotate_left; (focus (intro w; go_simp; (try with_reducible rfl))))
                refine wpAnyIn_ready (rs := [10]) (by kernel_rfl) (by simp) (AllReadyIn.cons rfl (fun K hK => ?_) AllReadyIn.nil)
                · (go_simp; refine hK _ _ ?_; clear hK)
                  refine wpAnyIn_done (by kernel_rfl) ?_ _
                  exact HS.out
            · (refine any_append (W.drew.alloc (.cells #[.int .i64 (xa : Nat), .slice (some ⟨g, xa + 6, none⟩) xn xn] 173)) rfl _ _ 122 rfl b0 173 j0 _ 2 32 Tryz.underlying122 hj hy0 hy1 hy2 rfl (by decide) fv nf (pre.flatMap (fCells g)) rfl HOV.out ⟨W.heap.size, 0, none⟩ 1 1 [.int .i64 (xa : Nat), .slice (some ⟨g, xa + 6, none⟩) xn xn] rfl rfl (World.news_of_block (cs := #[.int .i64 (xa : Nat), .slice (some ⟨g, xa + 6, none⟩) xn xn]) (t := 173) (fr := (0, 0)) (lheap_new W.drew _)) (by simp [Value.oneCell']) (by unfold maxLen; omega) (by omega) HBV.out ?_; intro v' w5 ho5 hg5; obtain ⟨g5, cap5, rfl⟩ := ownsRow_succ ho5; obtain ⟨⟨z1, z2, z3⟩, f1, f2, f3⟩ := HPush.out _ w5 ho5 hg5; have HS : Hid (KeepsOthers W (w5.setCell ⟨p, 4, none⟩ (.slice (some ⟨g5, 0, none⟩) (nf + 1) cap5)) ∧ Holds (fun k => k = Br + 1 ∨ k = Br ∨ k = g) W (w5.setCell ⟨p, 4, none⟩ (.slice (some ⟨g5, 0, none⟩) (nf + 1) cap5)) ∧ ∃ fv, Opi w2 m.p b0 p (p + 1) g leb np fv (pre ++ [x]) (w5.setCell ⟨p, 4, none⟩ (.slice (some ⟨g5, 0, none⟩) (nf + 1) cap5))) := ⟨f1, f2, _, f3⟩; clear f1 f2 f3 ho5 hg5; refine hK _ _ ?_; clear hK)
              refine wpAnyIn_ready (rs := [0]) (by kernel_rfl) (by simp) (AllReadyIn.cons rfl (fun K hK => ?_) AllReadyIn.nil)
              · (go_simp; refine hK _ _ ?_; clear hK)
                (refine wpAnyIn_take (i := 8) (v := ?_) rfl rfl (by kernel_rfl) (by kernel_rfl) (by kernel_rfl) (fun _ _ _ h => h) ⟨Or.inl ⟨by rfl, ?_⟩, fun _ => rfl⟩ ?_; rotate_left; (focus (intro w; go_simp; (try with_reducible rfl))))
                (refine wpAnyIn_take (i := 9) (v := ?_) rfl rfl (by kernel_rfl) (by kernel_rfl) (by kernel_rfl) (fun _ _ _ h => h) ⟨Or.inl ⟨by rfl, ?_⟩, fun _ => rfl⟩ ?_; rotate_left; (focus (intro w; go_simp; (try with_reducible rfl))))
                refine wpAnyIn_ready (rs := [10]) (by kernel_rfl) (by simp) (AllReadyIn.cons rfl (fun K hK => ?_) AllReadyIn.nil)
                · (go_simp; refine hK _ _ ?_; clear hK)
                  refine wpAnyIn_done (by kernel_rfl) ?_ _
                  exact HS.out
        · (go_simp; refine hK _ _ ?_; clear hK)
          refine wpAnyIn_ready (rs := [0, 4]) (by kernel_rfl) (by simp) (AllReadyIn.cons rfl (fun K hK => ?_) (AllReadyIn.cons rfl (fun K hK => ?_) AllReadyIn.nil))
          · (go_simp; refine hK _ _ ?_; clear hK)
            refine wpAnyIn_ready (rs := [4]) (by kernel_rfl) (by simp) (AllReadyIn.cons rfl (fun K hK => ?_) AllReadyIn.nil)
            · (go_simp; refine hK _ _ ?_; clear hK)
              refine wpAnyIn_ready (rs := [7]) (by kernel_rfl) (by simp) (AllReadyIn.cons rfl (fun K hK => ?_) AllReadyIn.nil)
              · (refine any_append (W.drew.alloc (.cells #[.int .i64 (xa : Nat), .slice (some ⟨g, xa + 6, none⟩) xn xn] 173)) rfl _ _ 122 rfl b0 173 j0 _ 2 32 Tryz.underlying122 hj hy0 hy1 hy2 rfl (by decide) fv nf (pre.flatMap (fCells g)) rfl HOV.out ⟨W.heap.size, 0, none⟩ 1 1 [.int .i64 (xa : Nat), .slice (some ⟨g, xa + 6, none⟩) xn xn] rfl rfl (World.news_of_block (cs := #[.int .i64 (xa : Nat), .slice (some ⟨g, xa + 6, none⟩) xn xn]) (t := 173) (fr := (0, 0)) (lheap_new W.drew _)) (by simp [Value.oneCell']) (by unfold maxLen; omega) (by omega) HBV.out ?_; intro v' w5 ho5 hg5; obtain ⟨g5, cap5, rfl⟩ := ownsRow_succ ho5; obtain ⟨⟨z1, z2, z3⟩, f1, f2, f3⟩ := HPush.out _ w5 ho5 hg5; have HS : Hid (KeepsOthers W (w5.setCell ⟨p, 4, none⟩ (.slice (some ⟨g5, 0, none⟩) (nf + 1) cap5)) ∧ Holds (fun k => k = Br + 1 ∨ k = Br ∨ k = g) W (w5.setCell ⟨p, 4, none⟩ (.slice (some ⟨g5, 0, none⟩) (nf + 1) cap5)) ∧ ∃ fv, Opi w2 m.p b0 p (p + 1) g leb np fv (pre ++ [x]) (w5.setCell ⟨p, 4, none⟩ (.slice (some ⟨g5, 0, none⟩) (nf + 1) cap5))) := ⟨f1, f2, _, f3⟩; clear f1 f2 f3 ho5 hg5; refine hK _ _ ?_; clear hK)
                (refine wpAnyIn_take (i := 8) (v := ?_) rfl rfl (by kernel_rfl) (by kernel_rfl) (by kernel_rfl) (fun _ _ _ h => h) ⟨Or.inl ⟨by rfl, ?_⟩, fun _ => rfl⟩ ?_; rotate_left; (focus (intro w; go_simp; (try with_reducible rfl))))
                (refine wpAnyIn_take (i := 9) (v := ?_) rfl rfl (by kernel_rfl) (by kernel_rfl) (by kernel_rfl) (fun _ _ _ h => h) ⟨Or.inl ⟨by rfl, ?_⟩, fun _ => rfl⟩ ?_; rotate_left; (focus (intro w; go_simp; (try with_reducible rfl))))
                refine wpAnyIn_ready (rs := [10]) (by kernel_rfl) (by simp) (AllReadyIn.cons rfl (fun K hK => ?_) AllReadyIn.nil)
                · (go_simp; refine hK _ _ ?_; clear hK)
                  refine wpAnyIn_done (by kernel_rfl) ?_ _
                  exact HS.out
          · (go_simp; refine hK _ _ ?_; clear hK)
            refine wpAnyIn_ready (rs := [0, 7]) (by kernel_rfl) (by simp) (AllReadyIn.cons rfl (fun K hK => ?_) (AllReadyIn.cons rfl (fun K hK => ?_) AllReadyIn.nil))
            · (go_simp; refine hK _ _ ?_; clear hK)
              refine wpAnyIn_ready (rs := [7]) (by kernel_rfl) (by simp) (AllReadyIn.cons rfl (fun K hK => ?_) AllReadyIn.nil)
              · (refine any_append (W.drew.alloc (.cells #[.int .i64 (xa : Nat), .slice (some ⟨g, xa + 6, none⟩) xn xn] 173)) rfl _ _ 122 rfl b0 173 j0 _ 2 32 Tryz.underlying122 hj hy0 hy1 hy2 rfl (by decide) fv nf (pre.flatMap (fCells g)) rfl HOV.out ⟨W.heap.size, 0, none⟩ 1 1 [.int .i64 (xa : Nat), .slice (some ⟨g, xa + 6, none⟩) xn xn] rfl rfl (World.news_of_block (cs := #[.int .i64 (xa : Nat), .slice (some ⟨g, xa + 6, none⟩) xn xn]) (t := 173) (fr := (0, 0)) (lheap_new W.drew _)) (by simp [Value.oneCell']) (by unfold maxLen; omega) (by omega) HBV.out ?_; intro v' w5 ho5 hg5; obtain ⟨g5, cap5, rfl⟩ := ownsRow_succ ho5; obtain ⟨⟨z1, z2, z3⟩, f1, f2, f3⟩ := HPush.out _ w5 ho5 hg5; have HS : Hid (KeepsOthers W (w5.setCell ⟨p, 4, none⟩ (.slice (some ⟨g5, 0, none⟩) (nf + 1) cap5)) ∧ Holds (fun k => k = Br + 1 ∨ k = Br ∨ k = g) W (w5.setCell ⟨p, 4, none⟩ (.slice (some ⟨g5, 0, none⟩) (nf + 1) cap5)) ∧ ∃ fv, Opi w2 m.p b0 p (p + 1) g leb np fv (pre ++ [x]) (w5.setCell ⟨p, 4, none⟩ (.slice (some ⟨g5, 0, none⟩) (nf + 1) cap5))) := ⟨f1, f2, _, f3⟩; clear f1 f2 f3 ho5 hg5; refine hK _ _ ?_; clear hK)
                (refine wpAnyIn_take (i := 8) (v := ?_) rfl rfl (by kernel_rfl) (by kernel_rfl) (by kernel_rfl) (fun _ _ _ h => h) ⟨Or.inl ⟨by rfl, ?_⟩, fun _ => rfl⟩ ?_; rotate_left; (focus (intro w; go_simp; (try with_reducible rfl))))
                (refine wpAnyIn_take (i := 9) (v := ?_) rfl rfl (by kernel_rfl) (by kernel_rfl) (by kernel_rfl) (fun _ _ _ h => h) ⟨Or.inl ⟨by rfl, ?_⟩, fun _ => rfl⟩ ?_; rotate_left; (focus (intro w; go_simp; (try with_reducible rfl))))
                refine wpAnyIn_ready (rs := [10]) (by kernel_rfl) (by simp) (AllReadyIn.cons rfl (fun K hK => ?_) AllReadyIn.nil)
                · (go_simp; refine hK _ _ ?_; clear hK)
                  refine wpAnyIn_done (by kernel_rfl) ?_ _
                  exact HS.out
            · (refine any_append (W.drew.alloc (.cells #[.int .i64 (xa : Nat), .slice (some ⟨g, xa + 6, none⟩) xn xn] 173)) rfl _ _ 122 rfl b0 173 j0 _ 2 32 Tryz.underlying122 hj hy0 hy1 hy2 rfl (by decide) fv nf (pre.flatMap (fCells g)) rfl HOV.out ⟨W.heap.size, 0, none⟩ 1 1 [.int .i64 (xa : Nat), .slice (some ⟨g, xa + 6, none⟩) xn xn] rfl rfl (World.news_of_block (cs := #[.int .i64 (xa : Nat), .slice (some ⟨g, xa + 6, none⟩) xn xn]) (t := 173) (fr := (0, 0)) (lheap_new W.drew _)) (by simp [Value.oneCell']) (by unfold maxLen; omega) (by omega) HBV.out ?_; intro v' w5 ho5 hg5; obtain ⟨g5, cap5, rfl⟩ := ownsRow_succ ho5; obtain ⟨⟨z1, z2, z3⟩, f1, f2, f3⟩ := HPush.out _ w5 ho5 hg5; have HS : Hid (KeepsOthers W (w5.setCell ⟨p, 4, none⟩ (.slice (some ⟨g5, 0, none⟩) (nf + 1) cap5)) ∧ Holds (fun k => k = Br + 1 ∨ k = Br ∨ k = g) W (w5.setCell ⟨p, 4, none⟩ (.slice (some ⟨g5, 0, none⟩) (nf + 1) cap5)) ∧ ∃ fv, Opi w2 m.p b0 p (p + 1) g leb np fv (pre ++ [x]) (w5.setCell ⟨p, 4, none⟩ (.slice (some ⟨g5, 0, none⟩) (nf + 1) cap5))) := ⟨f1, f2, _, f3⟩; clear f1 f2 f3 ho5 hg5; refine hK _ _ ?_; clear hK)
              refine wpAnyIn_ready (rs := [0]) (by kernel_rfl) (by simp) (AllReadyIn.cons rfl (fun K hK => ?_) AllReadyIn.nil)
              · (go_simp; refine hK _ _ ?_; clear hK)
                (refine wpAnyIn_take (i := 8) (v := ?_) rfl rfl (by kernel_rfl) (by kernel_rfl) (by kernel_rfl) (fun _ _ _ h => h) ⟨Or.inl ⟨by rfl, ?_⟩, fun _ => rfl⟩ ?_; rotate_left; (focus (intro w; go_simp; (try with_reducible rfl))))
                (refine wpAnyIn_take (i := 9) (v := ?_) rfl rfl (by kernel_rfl) (by kernel_rfl) (by kernel_rfl) (fun _ _ _ h => h) ⟨Or.inl ⟨by rfl, ?_⟩, fun _ => rfl⟩ ?_; rotate_left; (focus (intro w; go_simp; (try with_reducible rfl))))
                refine wpAnyIn_ready (rs := [10]) (by kernel_rfl) (by simp) (AllReadyIn.cons rfl (fun K hK => ?_) AllReadyIn.nil)
                · (go_simp; refine hK _ _ ?_; clear hK)
                  refine wpAnyIn_done (by kernel_rfl) ?_ _
                  exact HS.out
    · (go_simp; refine hK _ _ ?_; clear hK)
      refine wpAnyIn_ready (rs := [0, 1, 6]) (by kernel_rfl) (by simp) (AllReadyIn.cons rfl (fun K hK => ?_) (AllReadyIn.cons rfl (fun K hK => ?_) (AllReadyIn.cons rfl (fun K hK => ?_) AllReadyIn.nil)))
      · (go_simp; refine hK _ _ ?_; clear hK)
        refine wpAnyIn_ready (rs := [1, 6]) (by kernel_rfl) (by simp) (AllReadyIn.cons rfl (fun K hK => ?_) (AllReadyIn.cons rfl (fun K hK => ?_) AllReadyIn.nil))
        · (go_simp; refine hK _ _ ?_; clear hK)
          (refine wpAnyIn_take (i := 2) (v := ?_) rfl rfl (by kernel_rfl) (by kernel_rfl) (by kernel_rfl) (fun _ _ _ h => h) ⟨Or.inl ⟨by rfl, ?_⟩, fun _ => rfl⟩ ?_; rotate_left; (focus (intro w; go_simp; (try with_reducible rfl))))
          (refine wpAnyIn_take (i := 3) (v := ?_) rfl rfl (by kernel_rfl) (by kernel_rfl) (by kernel_rfl) (fun _ _ _ h => h) ⟨Or.inl ⟨by rfl, ?_⟩, fun _ => rfl⟩ ?_; rotate_left; (focus (intro w; go_simp; (try with_reducible rfl))))
          refine wpAnyIn_ready (rs := [4, 6]) (by kernel_rfl) (by simp) (AllReadyIn.cons rfl (fun K hK => ?_) (AllReadyIn.cons rfl (fun K hK => ?_) AllReadyIn.nil))
          · (go_simp; refine hK _ _ ?_; clear hK)
            refine wpAnyIn_ready (rs := [6]) (by kernel_rfl) (by simp) (AllReadyIn.cons rfl (fun K hK => ?_) AllReadyIn.nil)
            · (go_simp; refine hK _ _ ?_; clear hK)
              refine wpAnyIn_ready (rs := [7]) (by kernel_rfl) (by simp) (AllReadyIn.cons rfl (fun K hK => ?_) AllReadyIn.nil)
              · (refine any_append (W.drew.alloc (.cells #[.int .i64 (xa : Nat), .slice (some ⟨g, xa + 6, none⟩) xn xn] 173)) rfl _ _ 122 rfl b0 173 j0 _ 2 32 Tryz.underlying122 hj hy0 hy1 hy2 rfl (by decide) fv nf (pre.flatMap (fCells g)) rfl HOV.out ⟨W.heap.size, 0, none⟩ 1 1 [.int .i64 (xa : Nat), .slice (some ⟨g, xa + 6, none⟩) xn xn] rfl rfl (World.news_of_block (cs := #[.int .i64 (xa : Nat), .slice (some ⟨g, xa + 6, none⟩) xn xn]) (t := 173) (fr := (0, 0)) (lheap_new W.drew _)) (by simp [Value.oneCell']) (by unfold maxLen; omega) (by omega) HBV.out ?_; intro v' w5 ho5 hg5; obtain ⟨g5, cap5, rfl⟩ := ownsRow_succ ho5; obtain ⟨⟨z1, z2, z3⟩, f1, f2, f3⟩ := HPush.out _ w5 ho5 hg5; have HS : Hid (KeepsOthers W (w5.setCell ⟨p, 4, none⟩ (.slice (some ⟨g5, 0, none⟩) (nf + 1) cap5)) ∧ Holds (fun k => k = Br + 1 ∨ k = Br ∨ k = g) W (w5.setCell ⟨p, 4, none⟩ (.slice (some ⟨g5, 0, none⟩) (nf + 1) cap5)) ∧ ∃ fv, Opi w2 m.p b0 p (p + 1) g leb np fv (pre ++ [x]) (w5.setCell ⟨p, 4, none⟩ (.slice (some ⟨g5, 0, none⟩) (nf + 1) cap5))) := ⟨f1, f2, _, f3⟩; clear f1 f2 f3 ho5 hg5; refine hK _ _ ?_; clear hK)
                (refine wpAnyIn_take (i := 8) (v := ?_) rfl rfl (by kernel_rfl) (by kernel_rfl) (by kernel_rfl) (fun _ _ _ h => h) ⟨Or.inl ⟨by rfl, ?_⟩, fun _ => rfl⟩ ?_; rotate_left; (focus (intro w; go_simp; (try with_reducible rfl))))
                (refine wpAnyIn_take (i := 9) (v := ?_) rfl rfl (by kernel_rfl) (by kernel_rfl) (by kernel_rfl) (fun _ _ _ h => h) ⟨Or.inl ⟨by rfl, ?_⟩, fun _ => rfl⟩ ?_; rotate_left; (focus (intro w; go_simp; (try with_reducible rfl))))
                refine wpAnyIn_ready (rs := [10]) (by kernel_rfl) (by simp) (AllReadyIn.cons rfl (fun K hK => ?_) AllReadyIn.nil)
                · (go_simp; refine hK _ _ ?_; clear hK)
                  refine wpAnyIn_done (by kernel_rfl) ?_ _
                  exact HS.out
          · (go_simp; refine hK _ _ ?_; clear hK)
            refine wpAnyIn_ready (rs := [4]) (by kernel_rfl) (by simp) (AllReadyIn.cons rfl (fun K hK => ?_) AllReadyIn.nil)
            · (go_simp; refine hK _ _ ?_; clear hK)
              refine wpAnyIn_ready (rs := [7]) (by kernel_rfl) (by simp) (AllReadyIn.cons rfl (fun K hK => ?_) AllReadyIn.nil)
              · (refine any_append (W.drew.alloc (.cells #[.int .i64 (xa : Nat), .slice (some ⟨g, xa + 6, none⟩) xn xn] 173)) rfl _ _ 122 rfl b0 173 j0 _ 2 32 Tryz.underlying122 hj hy0 hy1 hy2 rfl (by decide) fv nf (pre.flatMap (fCells g)) rfl HOV.out ⟨W.heap.size, 0, none⟩ 1 1 [.int .i64 (xa : Nat), .slice (some ⟨g, xa + 6, none⟩) xn xn] rfl rfl (World.news_of_block (cs := #[.int .i64 (xa : Nat), .slice (some ⟨g, xa + 6, none⟩) xn xn]) (t := 173) (fr := (0, 0)) (lheap_new W.drew _)) (by simp [Value.oneCell']) (by unfold maxLen; omega) (by omega) HBV.out ?_; intro v' w5 ho5 hg5; obtain ⟨g5, cap5, rfl⟩ := ownsRow_succ ho5; obtain ⟨⟨z1, z2, z3⟩, f1, f2, f3⟩ := HPush.out _ w5 ho5 hg5; have HS : Hid (KeepsOthers W (w5.setCell ⟨p, 4, none⟩ (.slice (some ⟨g5, 0, none⟩) (nf + 1) cap5)) ∧ Holds (fun k => k = Br + 1 ∨ k = Br ∨ k = g) W (w5.setCell ⟨p, 4, none⟩ (.slice (some ⟨g5, 0, none⟩) (nf + 1) cap5)) ∧ ∃ fv, Opi w2 m.p b0 p (p + 1) g leb np fv (pre ++ [x]) (w5.setCell ⟨p, 4, none⟩ (.slice (some ⟨g5, 0, none⟩) (nf + 1) cap5))) := ⟨f1, f2, _, f3⟩; clear f1 f2 f3 ho5 hg5; refine hK _ _ ?_; clear hK)
                (refine wpAnyIn_take (i := 8) (v := ?_) rfl rfl (by kernel_rfl) (by kernel_rfl) (by kernel_rfl) (fun _ _ _ h => h) ⟨Or.inl ⟨by rfl, ?_⟩, fun _ => rfl⟩ ?_; rotate_left; (focus (intro w; go_simp; (try with_reducible rfl))))
                (refine wpAnyIn_take (i := 9) (v := ?_) rfl rfl (by kernel_rfl) (by kernel_rfl) (by kernel_rfl) (fun _ _ _ h => h) ⟨Or.inl ⟨by rfl, ?_⟩, fun _ => rfl⟩ ?_; rotate_left; (focus (intro w; go_simp; (try with_reducible rfl))))
                refine wpAnyIn_ready (rs := [10]) (by kernel_rfl) (by simp) (AllReadyIn.cons rfl (fun K hK => ?_) AllReadyIn.nil)
                · (go_simp; refine hK _ _ ?_; clear hK)
                  refine wpAnyIn_done (by kernel_rfl) ?_ _
                  exact HS.out
        · (go_simp; refine hK _ _ ?_; clear hK)
          refine wpAnyIn_ready (rs := [1]) (by kernel_rfl) (by simp) (AllReadyIn.cons rfl (fun K hK => ?_) AllReadyIn.nil)
          · (go_simp; refine hK _ _ ?_; clear hK)
            (refine wpAnyIn_take (i := 2) (v := ?_) rfl rfl (by kernel_rfl) (by kernel_rfl) (by kernel_rfl) (fun _ _ _ h => h) ⟨Or.inl ⟨by rfl, ?_⟩, fun _ => rfl⟩ ?_; rotate_left; (focus (intro w; go_simp; (try with_reducible rfl))))
            (refine wpAnyIn_take (i := 3) (v := ?_) rfl rfl (by kernel_rfl) (by kernel_rfl) (by kernel_rfl) (fun _ _ _ h => h) ⟨Or.inl ⟨by rfl, ?_⟩, fun _ => rfl⟩ ?_; rotate_left; (focus (intro w; go_simp; (try with_reducible rfl))))
            refine wpAnyIn_ready (rs := [4]) (by kernel_rfl) (by simp) (AllReadyIn.cons rfl (fun K hK => ?_) AllReadyIn.nil)
            · (go_simp; refine hK _ _ ?_; clear hK)
              refine wpAnyIn_ready (rs := [7]) (by kernel_rfl) (by simp) (AllReadyIn.cons rfl (fun K hK => ?_) AllReadyIn.nil)
              · (refine any_append (W.drew.alloc (.cells #[.int .i64 (xa : Nat), .slice (some ⟨g, xa + 6, none⟩) xn xn] 173)) rfl _ _ 122 rfl b0 173 j0 _ 2 32 Tryz.underlying122 hj hy0 hy1 hy2 rfl (by decide) fv nf (pre.flatMap (fCells g)) rfl HOV.out ⟨W.heap.size, 0, none⟩ 1 1 [.int .i64 (xa : Nat), .slice (some ⟨g, xa + 6, none⟩) xn xn] rfl rfl (World.news_of_block (cs := #[.int .i64 (xa : Nat), .slice (some ⟨g, xa + 6, none⟩) xn xn]) (t := 173) (fr := (0, 0)) (lheap_new W.drew _)) (by simp [Value.oneCell']) (by unfold maxLen; omega) (by omega) HBV.out ?_; intro v' w5 ho5 hg5; obtain ⟨g5, cap5, rfl⟩ := ownsRow_succ ho5; obtain ⟨⟨z1, z2, z3⟩, f1, f2, f3⟩ := HPush.out _ w5 ho5 hg5; have HS : Hid (KeepsOthers W (w5.setCell ⟨p, 4, none⟩ (.slice (some ⟨g5, 0, none⟩) (nf + 1) cap5)) ∧ Holds (fun k => k = Br + 1 ∨ k = Br ∨ k = g) W (w5.setCell ⟨p, 4, none⟩ (.slice (some ⟨g5, 0, none⟩) (nf + 1) cap5)) ∧ ∃ fv, Opi w2 m.p b0 p (p + 1) g leb np fv (pre ++ [x]) (w5.setCell ⟨p, 4, none⟩ (.slice (some ⟨g5, 0, none⟩) (nf + 1) cap5))) := ⟨f1, f2, _, f3⟩; clear f1 f2 f3 ho5 hg5; refine hK _ _ ?_; clear hK)
                (refine wpAnyIn_take (i := 8) (v := ?_) rfl rfl (by kernel_rfl) (by kernel_rfl) (by kernel_rfl) (fun _ _ _ h => h) ⟨Or.inl ⟨by rfl, ?_⟩, fun _ => rfl⟩ ?_; rotate_left; (focus (intro w; go_simp; (try with_reducible rfl))))
                (refine wpAnyIn_take (i := 9) (v := ?_) rfl rfl (by kernel_rfl) (by kernel_rfl) (by kernel_rfl) (fun _ _ _ h => h) ⟨Or.inl ⟨by rfl, ?_⟩, fun _ => rfl⟩ ?_; rotate_left; (focus (intro w; go_simp; (try with_reducible rfl))))
                refine wpAnyIn_ready (rs := [10]) (by kernel_rfl) (by simp) (AllReadyIn.cons rfl (fun K hK => ?_) AllReadyIn.nil)
                · (go_simp; refine hK _ _ ?_; clear hK)
                  refine wpAnyIn_done (by kernel_rfl) ?_ _
                  exact HS.out
      · (go_simp; refine hK _ _ ?_; clear hK)
        (refine wpAnyIn_take (i := 2) (v := ?_) rfl rfl (by kernel_rfl) (by kernel_rfl) (by kernel_rfl) (fun _ _ _ h => h) ⟨Or.inl ⟨by rfl, ?_⟩, fun _ => rfl⟩ ?_; rotate_left; (focus (intro w; go_simp; (try with_reducible rfl))))
        (refine wpAnyIn_take (i := 3) (v := ?_) rfl rfl (by kernel_rfl) (by kernel_rfl) (by kernel_rfl) (fun _ _ _ h => h) ⟨Or.inl ⟨by rfl, ?_⟩, fun _ => rfl⟩ ?_; rotate_left; (focus (intro w; go_simp; (try with_reducible rfl))))
        refine wpAnyIn_ready (rs := [0, 4, 6]) (by kernel_rfl) (by simp) (AllReadyIn.cons rfl (fun K hK => ?_) (AllReadyIn.cons rfl (fun K hK => ?_) (AllReadyIn.cons rfl (fun K hK => ?_) AllReadyIn.nil)))
        · (go_simp; refine hK _ _ ?_; clear hK)
          refine wpAnyIn_ready (rs := [4, 6]) (by kernel_rfl) (by simp) (AllReadyIn.cons rfl (fun K hK => ?_) (AllReadyIn.cons rfl (fun K hK => ?_) AllReadyIn.nil))
          · (go_simp; refine hK _ _ ?_; clear hK)
            refine wpAnyIn_ready (rs := [6]) (by kernel_rfl) (by simp) (AllReadyIn.cons rfl (fun K hK => ?_) AllReadyIn.nil)
            · (go_simp; refine hK _ _ ?_; clear hK)
              refine wpAnyIn_ready (rs := [7]) (by kernel_rfl) (by simp) (AllReadyIn.cons rfl (fun K hK => ?_) AllReadyIn.nil)
              · (refine any_append (W.drew.alloc (.cells #[.int .i64 (xa : Nat), .slice (some ⟨g, xa + 6, none⟩) xn xn] 173)) rfl _ _ 122 rfl b0 173 j0 _ 2 32 Tryz.underlying122 hj hy0 hy1 hy2 rfl (by decide) fv nf (pre.flatMap (fCells g)) rfl HOV.out ⟨W.heap.size, 0, none⟩ 1 1 [.int .i64 (xa : Nat), .slice (some ⟨g, xa + 6, none⟩) xn xn] rfl rfl (World.news_of_block (cs := #[.int .i64 (xa : Nat), .slice (some ⟨g, xa + 6, none⟩) xn xn]) (t := 173) (fr := (0, 0)) (lheap_new W.drew _)) (by simp [Value.oneCell']) (by unfold maxLen; omega) (by omega) HBV.out ?_; intro v' w5 ho5 hg5; obtain ⟨g5, cap5, rfl⟩ := ownsRow_succ ho5; obtain ⟨⟨z1, z2, z3⟩, f1, f2, f3⟩ := HPush.out _ w5 ho5 hg5; have HS : Hid (KeepsOthers W (w5.setCell ⟨p, 4, none⟩ (.slice (some ⟨g5, 0, none⟩) (nf + 1) cap5)) ∧ Holds (fun k => k = Br + 1 ∨ k = Br ∨ k = g) W (w5.setCell ⟨p, 4, none⟩ (.slice (some ⟨g5, 0, none⟩) (nf + 1) cap5)) ∧ ∃ fv, Opi w2 m.p b0 p (p + 1) g leb np fv (pre ++ [x]) (w5.setCell ⟨p, 4, none⟩ (.slice (some ⟨g5, 0, none⟩) (nf + 1) cap5))) := ⟨f1, f2, _, f3⟩; clear f1 f2 f3 ho5 hg5; refine hK _ _ ?_; clear hK)
                (refine wpAnyIn_take (i := 8) (v := ?_) rfl rfl (by kernel_rfl) (by kernel_rfl) (by kernel_rfl) (fun _ _ _ h => h) ⟨Or.inl ⟨by rfl, ?_⟩, fun _ => rfl⟩ ?_; rotate_left; (focus (intro w; go_simp; (try with_reducible rfl))))
                (refine wpAnyIn_take (i := 9) (v := ?_) rfl rfl (by kernel_rfl) (by kernel_rfl) (by kernel_rfl) (fun _ _ _ h => h) ⟨Or.inl ⟨by rfl, ?_⟩, fun _ => rfl⟩ ?_; rotate_left; (focus (intro w; go_simp; (try with_reducible rfl))))
                refine wpAnyIn_ready (rs := [10]) (by kernel_rfl) (by simp) (AllReadyIn.cons rfl (fun K hK => ?_) AllReadyIn.nil)
                · (go_simp; refine hK _ _ ?_; clear hK)
                  refine wpAnyIn_done (by kernel_rfl) ?_ _
                  exact HS.out
          · (go_simp; refine hK _ _ ?_; clear hK)
            refine wpAnyIn_ready (rs := [4]) (by kernel_rfl) (by simp) (AllReadyIn.cons rfl (fun K hK => ?_) AllReadyIn.nil)
            · (go_simp; refine hK _ _ ?_; clear hK)
              refine wpAnyIn_ready (rs := [7]) (by kernel_rfl) (by simp) (AllReadyIn.cons rfl (fun K hK => ?_) AllReadyIn.nil)
              · (refine any_append (W.drew.alloc (.cells #[.int .i64 (xa : Nat), .slice (some ⟨g, xa + 6, none⟩) xn xn] 173)) rfl _ _ 122 rfl b0 173 j0 _ 2 32 Tryz.underlying122 hj hy0 hy1 hy2 rfl (by decide) fv nf (pre.flatMap (fCells g)) rfl HOV.out ⟨W.heap.size, 0, none⟩ 1 1 [.int .i64 (xa : Nat), .slice (some ⟨g, xa + 6, none⟩) xn xn] rfl rfl (World.news_of_block (cs := #[.int .i64 (xa : Nat), .slice (some ⟨g, xa + 6, none⟩) xn xn]) (t := 173) (fr := (0, 0)) (lheap_new W.drew _)) (by simp [Value.oneCell']) (by unfold maxLen; omega) (by omega) HBV.out ?_; intro v' w5 ho5 hg5; obtain ⟨g5, cap5, rfl⟩ := ownsRow_succ ho5; obtain ⟨⟨z1, z2, z3⟩, f1, f2, f3⟩ := HPush.out _ w5 ho5 hg5; have HS : Hid (KeepsOthers W (w5.setCell ⟨p, 4, none⟩ (.slice (some ⟨g5, 0, none⟩) (nf + 1) cap5)) ∧ Holds (fun k => k = Br + 1 ∨ k = Br ∨ k = g) W (w5.setCell ⟨p, 4, none⟩ (.slice (some ⟨g5, 0, none⟩) (nf + 1) cap5)) ∧ ∃ fv, Opi w2 m.p b0 p (p + 1) g leb np fv (pre ++ [x]) (w5.setCell ⟨p, 4, none⟩ (.slice (some ⟨g5, 0, none⟩) (nf + 1) cap5))) := ⟨f1, f2, _, f3⟩; clear f1 f2 f3 ho5 hg5; refine hK _ _ ?_; clear hK)
                (refine wpAnyIn_take (i := 8) (v := ?_) rfl rfl (by kernel_rfl) (by kernel_rfl) (by kernel_rfl) (fun _ _ _ h => h) ⟨Or.inl ⟨by rfl, ?_⟩, fun _ => rfl⟩ ?_; rotate_left; (focus (intro w; go_simp; (try with_reducible rfl))))
                (refine wpAnyIn_take (i := 9) (v := ?_) rfl rfl (by kernel_rfl) (by kernel_rfl) (by kernel_rfl) (fun _ _ _ h => h) ⟨Or.inl ⟨by rfl, ?_⟩, fun _ => rfl⟩ ?_; rotate_left; (focus (intro w; go_simp; (try with_reducible rfl))))
                refine wpAnyIn_ready (rs := [10]) (by kernel_rfl) (by simp) (AllReadyIn.cons rfl (fun K hK => ?_) AllReadyIn.nil)
                · (go_simp; refine hK _ _ ?_; clear hK)
                  refine wpAnyIn_done (by kernel_rfl) ?_ _
                  exact HS.out
        · (go_simp; refine hK _ _ ?_; clear hK)
          refine wpAnyIn_ready (rs := [0, 6]) (by kernel_rfl) (by simp) (AllReadyIn.cons rfl (fun K hK => ?_) (AllReadyIn.cons rfl (fun K hK => ?_) AllReadyIn.nil))
          · (go_simp; refine hK _ _ ?_; clear hK)
            refine wpAnyIn_ready (rs := [6]) (by kernel_rfl) (by simp) (AllReadyIn.cons rfl (fun K hK => ?_) AllReadyIn.nil)
            · (go_simp; refine hK _ _ ?_; clear hK)
              refine wpAnyIn_ready (rs := [7]) (by kernel_rfl) (by simp) (AllReadyIn.cons rfl (fun K hK => ?_) AllReadyIn.nil)
              · (refine any_append (W.drew.alloc (.cells #[.int .i64 (xa : Nat), .slice (some ⟨g, xa + 6, none⟩) xn xn] 173)) rfl _ _ 122 rfl b0 173 j0 _ 2 32 Tryz.underlying122 hj hy0 hy1 hy2 rfl (by decide) fv nf (pre.flatMap (fCells g)) rfl HOV.out ⟨W.heap.size, 0, none⟩ 1 1 [.int .i64 (xa : Nat), .slice (some ⟨g, xa + 6, none⟩) xn xn] rfl rfl (World.news_of_block (cs := #[.int .i64 (xa : Nat), .slice (some ⟨g, xa + 6, none⟩) xn xn]) (t := 173) (fr := (0, 0)) (lheap_new W.drew _)) (by simp [Value.oneCell']) (by unfold maxLen; omega) (by omega) HBV.out ?_; intro v' w5 ho5 hg5; obtain ⟨g5, cap5, rfl⟩ := ownsRow_succ ho5; obtain ⟨⟨z1, z2, z3⟩, f1, f2, f3⟩ := HPush.out _ w5 ho5 hg5; have HS : Hid (KeepsOthers W (w5.setCell ⟨p, 4, none⟩ (.slice (some ⟨g5, 0, none⟩) (nf + 1) cap5)) ∧ Holds (fun k => k = Br + 1 ∨ k = Br ∨ k = g) W (w5.setCell ⟨p, 4, none⟩ (.slice (some ⟨g5, 0, none⟩) (nf + 1) cap5)) ∧ ∃ fv, Opi w2 m.p b0 p (p + 1) g leb np fv (pre ++ [x]) (w5.setCell ⟨p, 4, none⟩ (.slice (some ⟨g5, 0, none⟩) (nf + 1) cap5))) := ⟨f1, f2, _, f3⟩; clear f1 f2 f3 ho5 hg5; refine hK _ _ ?_; clear hK)
                (refine wpAnyIn_take (i := 8) (v := ?_) rfl rfl (by kernel_rfl) (by kernel_rfl) (by kernel_rfl) (fun _ _ _ h => h) ⟨Or.inl ⟨by rfl, ?_⟩, fun _ => rfl⟩ ?_; rotate_left; (focus (intro w; go_simp; (try with_reducible rfl))))
                (refine wpAnyIn_take (i := 9) (v := ?_) rfl rfl (by kernel_rfl) (by kernel_rfl) (by kernel_rfl) (fun _ _ _ h => h) ⟨Or.inl ⟨by rfl, ?_⟩, fun _ => rfl⟩ ?_; rotate_left; (focus (intro w; go_simp; (try with_reducible rfl))))
                refine wpAnyIn_ready (rs := [10]) (by kernel_rfl) (by simp) (AllReadyIn.cons rfl (fun K hK => ?_) AllReadyIn.nil)
                · (go_simp; refine hK _ _ ?_; clear hK)
                  refine wpAnyIn_done (by kernel_rfl) ?_ _
                  exact HS.out
          · (go_simp; refine hK _ _ ?_; clear hK)
            refine wpAnyIn_ready (rs := [0, 7]) (by kernel_rfl) (by simp) (AllReadyIn.cons rfl (fun K hK => ?_) (AllReadyIn.cons rfl (fun K hK => ?_) AllReadyIn.nil))
            · (go_simp; refine hK _ _ ?_; clear hK)
              refine wpAnyIn_ready (rs := [7]) (by kernel_rfl) (by simp) (AllReadyIn.cons rfl (fun K hK => ?_) AllReadyIn.nil)
              · (refine any_append (W.drew.alloc (.cells #[.int .i64 (xa : Nat), .slice (some ⟨g, xa + 6, none⟩) xn xn] 173)) rfl _ _ 122 rfl b0 173 j0 _ 2 32 Tryz.underlying122 hj hy0 hy1 hy2 rfl (by decide) fv nf (pre.flatMap (fCells g)) rfl HOV.out ⟨W.heap.size, 0, none⟩ 1 1 [.int .i64 (xa : Nat), .slice (some ⟨g, xa + 6, none⟩) xn xn] rfl rfl (World.news_of_block (cs := #[.int .i64 (xa : Nat), .slice (some ⟨g, xa + 6, none⟩) xn xn]) (t := 173) (fr := (0, 0)) (lheap_new W.drew _)) (by simp [Value.oneCell']) (by unfold maxLen; omega) (by omega) HBV.out ?_; intro v' w5 ho5 hg5; obtain ⟨g5, cap5, rfl⟩ := ownsRow_succ ho5; obtain ⟨⟨z1, z2, z3⟩, f1, f2, f3⟩ := HPush.out _ w5 ho5 hg5; have HS : Hid (KeepsOthers W (w5.setCell ⟨p, 4, none⟩ (.slice (some ⟨g5, 0, none⟩) (nf + 1) cap5)) ∧ Holds (fun k => k = Br + 1 ∨ k = Br ∨ k = g) W (w5.setCell ⟨p, 4, none⟩ (.slice (some ⟨g5, 0, none⟩) (nf + 1) cap5)) ∧ ∃ fv, Opi w2 m.p b0 p (p + 1) g leb np fv (pre ++ [x]) (w5.setCell ⟨p, 4, none⟩ (.slice (some ⟨g5, 0, none⟩) (nf + 1) cap5))) := ⟨f1, f2, _, f3⟩; clear f1 f2 f3 ho5 hg5; refine hK _ _ ?_; clear hK)
                (refine wpAnyIn_take (i := 8) (v := ?_) rfl rfl (by kernel_rfl) (by kernel_rfl) (by kernel_rfl) (fun _ _ _ h => h) ⟨Or.inl ⟨by rfl, ?_⟩, fun _ => rfl⟩ ?_; rotate_left; (focus (intro w; go_simp; (try with_reducible rfl))))
                (refine wpAnyIn_take (i := 9) (v := ?_) rfl rfl (by kernel_rfl) (by kernel_rfl) (by kernel_rfl) (fun _ _ _ h => h) ⟨Or.inl ⟨by rfl, ?_⟩, fun _ => rfl⟩ ?_; rotate_left; (focus (intro w; go_simp; (try with_reducible rfl))))
                refine wpAnyIn_ready (rs := [10]) (by kernel_rfl) (by simp) (AllReadyIn.cons rfl (fun K hK => ?_) AllReadyIn.nil)
                · (go_simp; refine hK _ _ ?_; clear hK)
                  refine wpAnyIn_done (by kernel_rfl) ?_ _
                  exact HS.out
            · (refine any_append (W.drew.alloc (.cells #[.int .i64 (xa : Nat), .slice (some ⟨g, xa + 6, none⟩) xn xn] 173)) rfl _ _ 122 rfl b0 173 j0 _ 2 32 Tryz.underlying122 hj hy0 hy1 hy2 rfl (by decide) fv nf (pre.flatMap (fCells g)) rfl HOV.out ⟨W.heap.size, 0, none⟩ 1 1 [.int .i64 (xa : Nat), .slice (some ⟨g, xa + 6, none⟩) xn xn] rfl rfl (World.news_of_block (cs := #[.int .i64 (xa : Nat), .slice (some ⟨g, xa + 6, none⟩) xn xn]) (t := 173) (fr := (0, 0)) (lheap_new W.drew _)) (by simp [Value.oneCell']) (by unfold maxLen; omega) (by omega) HBV.out ?_; intro v' w5 ho5 hg5; obtain ⟨g5, cap5, rfl⟩ := ownsRow_succ ho5; obtain ⟨⟨z1, z2, z3⟩, f1, f2, f3⟩ := HPush.out _ w5 ho5 hg5; have HS : Hid (KeepsOthers W (w5.setCell ⟨p, 4, none⟩ (.slice (some ⟨g5, 0, none⟩) (nf + 1) cap5)) ∧ Holds (fun k => k = Br + 1 ∨ k = Br ∨ k = g) W (w5.setCell ⟨p, 4, none⟩ (.slice (some ⟨g5, 0, none⟩) (nf + 1) cap5)) ∧ ∃ fv, Opi w2 m.p b0 p (p + 1) g leb np fv (pre ++ [x]) (w5.setCell ⟨p, 4, none⟩ (.slice (some ⟨g5, 0, none⟩) (nf + 1) cap5))) := ⟨f1, f2, _, f3⟩; clear f1 f2 f3 ho5 hg5; refine hK _ _ ?_; clear hK)
              refine wpAnyIn_ready (rs := [0]) (by kernel_rfl) (by simp) (AllReadyIn.cons rfl (fun K hK => ?_) AllReadyIn.nil)
              · (go_simp; refine hK _ _ ?_; clear hK)
                (refine wpAnyIn_take (i := 8) (v := ?_) rfl rfl (by kernel_rfl) (by kernel_rfl) (by kernel_rfl) (fun _ _ _ h => h) ⟨Or.inl ⟨by rfl, ?_⟩, fun _ => rfl⟩ ?_; rotate_left; (focus (intro w; go_simp; (try with_reducible rfl))))
                (refine wpAnyIn_take (i := 9) (v := ?_) rfl rfl (by kernel_rfl) (by kernel_rfl) (by kernel_rfl) (fun _ _ _ h => h) ⟨Or.inl ⟨by rfl, ?_⟩, fun _ => rfl⟩ ?_; rotate_left; (focus (intro w; go_simp; (try with_reducible rfl))))
                refine wpAnyIn_ready (rs := [10]) (by kernel_rfl) (by simp) (AllReadyIn.cons rfl (fun K hK => ?_) AllReadyIn.nil)
                · (go_simp; refine hK _ _ ?_; clear hK)
                  refine wpAnyIn_done (by kernel_rfl) ?_ _
                  exact HS.out
        · (go_simp; refine hK _ _ ?_; clear hK)
          refine wpAnyIn_ready (rs := [0, 4]) (by kernel_rfl) (by simp) (AllReadyIn.cons rfl (fun K hK => ?_) (AllReadyIn.cons rfl (fun K hK => ?_) AllReadyIn.nil))
          · (go_simp; refine hK _ _ ?_; clear hK)
            refine wpAnyIn_ready (rs := [4]) (by kernel_rfl) (by simp) (AllReadyIn.cons rfl (fun K hK => ?_) AllReadyIn.nil)
            · (go_simp; refine hK _ _ ?_; clear hK)
              refine wpAnyIn_ready (rs := [7]) (by kernel_rfl) (by simp) (AllReadyIn.cons rfl (fun K hK => ?_) AllReadyIn.nil)
              · (refine any_append (W.drew.alloc (.cells #[.int .i64 (xa : Nat), .slice (some ⟨g, xa + 6, none⟩) xn xn] 173)) rfl _ _ 122 rfl b0 173 j0 _ 2 32 Tryz.underlying122 hj hy0 hy1 hy2 rfl (by decide) fv nf (pre.flatMap (fCells g)) rfl HOV.out ⟨W.heap.size, 0, none⟩ 1 1 [.int .i64 (xa : Nat), .slice (some ⟨g, xa + 6, none⟩) xn xn] rfl rfl (World.news_of_block (cs := #[.int .i64 (xa : Nat), .slice (some ⟨g, xa + 6, none⟩) xn xn]) (t := 173) (fr := (0, 0)) (lheap_new W.drew _)) (by simp [Value.oneCell']) (by unfold maxLen; omega) (by omega) HBV.out ?_; intro v' w5 ho5 hg5; obtain ⟨g5, cap5, rfl⟩ := ownsRow_succ ho5; obtain ⟨⟨z1, z2, z3⟩, f1, f2, f3⟩ := HPush.out _ w5 ho5 hg5; have HS : Hid (KeepsOthers W (w5.setCell ⟨p, 4, none⟩ (.slice (some ⟨g5, 0, none⟩) (nf + 1) cap5)) ∧ Holds (fun k => k = Br + 1 ∨ k = Br ∨ k = g) W (w5.setCell ⟨p, 4, none⟩ (.slice (some ⟨g5, 0, none⟩) (nf + 1) cap5)) ∧ ∃ fv, Opi w2 m.p b0 p (p + 1) g leb np fv (pre ++ [x]) (w5.setCell ⟨p, 4, none⟩ (.slice (some ⟨g5, 0, none⟩) (nf + 1) cap5))) := ⟨f1, f2, _, f3⟩; clear f1 f2 f3 ho5 hg5; refine hK _ _ ?_; clear hK)
                (refine wpAnyIn_take (i := 8) (v := ?_) rfl rfl (by kernel_rfl) (by kernel_rfl) (by kernel_rfl) (fun _ _ _ h => h) ⟨Or.inl ⟨by rfl, ?_⟩, fun _ => rfl⟩ ?_; rotate_left; (focus (intro w; go_simp; (try with_reducible rfl))))
                (refine wpAnyIn_take (i := 9) (v := ?_) rfl rfl (by kernel_rfl) (by kernel_rfl) (by kernel_rfl) (fun _ _ _ h => h) ⟨Or.inl ⟨by rfl, ?_⟩, fun _ => rfl⟩ ?_; rotate_left; (focus (intro w; go_simp; (try with_reducible rfl))))
                refine wpAnyIn_ready (rs := [10]) (by kernel_rfl) (by simp) (AllReadyIn.cons rfl (fun K hK => ?_) AllReadyIn.nil)
                · (go_simp; refine hK _ _ ?_; clear hK)
                  refine wpAnyIn_done (by kernel_rfl) ?_ _
                  exact HS.out
          · (go_simp; refine hK _ _ ?_; clear hK)
            refine wpAnyIn_ready (rs := [0, 7]) (by kernel_rfl) (by simp) (AllReadyIn.cons rfl (fun K hK => ?_) (AllReadyIn.cons rfl (fun K hK => ?_) AllReadyIn.nil))
            · (go_simp; refine hK _ _ ?_; clear hK)
              refine wpAnyIn_ready (rs := [7]) (by kernel_rfl) (by simp) (AllReadyIn.cons rfl (fun K hK => ?_) AllReadyIn.nil)
              · (refine any_append (W.drew.alloc (.cells #[.int .i64 (xa : Nat), .slice (some ⟨g, xa + 6, none⟩) xn xn] 173)) rfl _ _ 122 rfl b0 173 j0 _ 2 32 Tryz.underlying122 hj hy0 hy1 hy2 rfl (by decide) fv nf (pre.flatMap (fCells g)) rfl HOV.out ⟨W.heap.size, 0, none⟩ 1 1 [.int .i64 (xa : Nat), .slice (some ⟨g, xa + 6, none⟩) xn xn] rfl rfl (World.news_of_block (cs := #[.int .i64 (xa : Nat), .slice (some ⟨g, xa + 6, none⟩) xn xn]) (t := 173) (fr := (0, 0)) (lheap_new W.drew _)) (by simp [Value.oneCell']) (by unfold maxLen; omega) (by omega) HBV.out ?_; intro v' w5 ho5 hg5; obtain ⟨g5, cap5, rfl⟩ := ownsRow_succ ho5; obtain ⟨⟨z1, z2, z3⟩, f1, f2, f3⟩ := HPush.out _ w5 ho5 hg5; have HS : Hid (KeepsOthers W (w5.setCell ⟨p, 4, none⟩ (.slice (some ⟨g5, 0, none⟩) (nf + 1) cap5)) ∧ Holds (fun k => k = Br + 1 ∨ k = Br ∨ k = g) W (w5.setCell ⟨p, 4, none⟩ (.slice (some ⟨g5, 0, none⟩) (nf + 1) cap5)) ∧ ∃ fv, Opi w2 m.p b0 p (p + 1) g leb np fv (pre ++ [x]) (w5.setCell ⟨p, 4, none⟩ (.slice (some ⟨g5, 0, none⟩) (nf + 1) cap5))) := ⟨f1, f2, _, f3⟩; clear f1 f2 f3 ho5 hg5; refine hK _ _ ?_; clear hK)
                (refine wpAnyIn_take (i := 8) (v := ?_) rfl rfl (by kernel_rfl) (by kernel_rfl) (by kernel_rfl) (fun _ _ _ h => h) ⟨Or.inl ⟨by rfl, ?_⟩, fun _ => rfl⟩ ?_; rotate_left; (focus (intro w; go_simp; (try with_reducible rfl))))
                (refine wpAnyIn_take (i := 9) (v := ?_) rfl rfl (by kernel_rfl) (by kernel_rfl) (by kernel_rfl) (fun _ _ _ h => h) ⟨Or.inl ⟨by rfl, ?_⟩, fun _ => rfl⟩ ?_; rotate_left; (focus (intro w; go_simp; (try with_reducible rfl))))
                refine wpAnyIn_ready (rs := [10]) (by kernel_rfl) (by simp) (AllReadyIn.cons rfl (fun K hK => ?_) AllReadyIn.nil)
                · (go_simp; refine hK _ _ ?_; clear hK)
                  refine wpAnyIn_done (by kernel_rfl) ?_ _
                  exact HS.out
            · (refine any_append (W.drew.alloc (.cells #[.int .i64 (xa : Nat), .slice (some ⟨g, xa + 6, none⟩) xn xn] 173)) rfl _ _ 122 rfl b0 173 j0 _ 2 32 Tryz.underlying122 hj hy0 hy1 hy2 rfl (by decide) fv nf (pre.flatMap (fCells g)) rfl HOV.out ⟨W.heap.size, 0, none⟩ 1 1 [.int .i64 (xa : Nat), .slice (some ⟨g, xa + 6, none⟩) xn xn] rfl rfl (World.news_of_block (cs := #[.int .i64 (xa : Nat), .slice (some ⟨g, xa + 6, none⟩) xn xn]) (t := 173) (fr := (0, 0)) (lheap_new W.drew _)) (by simp [Value.oneCell']) (by unfold maxLen; omega) (by omega) HBV.out ?_; intro v' w5 ho5 hg5; obtain ⟨g5, cap5, rfl⟩ := ownsRow_succ ho5; obtain ⟨⟨z1, z2, z3⟩, f1, f2, f3⟩ := HPush.out _ w5 ho5 hg5; have HS : Hid (KeepsOthers W (w5.setCell ⟨p, 4, none⟩ (.slice (some ⟨g5, 0, none⟩) (nf + 1) cap5)) ∧ Holds (fun k => k = Br + 1 ∨ k = Br ∨ k = g) W (w5.setCell ⟨p, 4, none⟩ (.slice (some ⟨g5, 0, none⟩) (nf + 1) cap5)) ∧ ∃ fv, Opi w2 m.p b0 p (p + 1) g leb np fv (pre ++ [x]) (w5.setCell ⟨p, 4, none⟩ (.slice (some ⟨g5, 0, none⟩) (nf + 1) cap5))) := ⟨f1, f2, _, f3⟩; clear f1 f2 f3 ho5 hg5; refine hK _ _ ?_; clear hK)
              refine wpAnyIn_ready (rs := [0]) (by kernel_rfl) (by simp) (AllReadyIn.cons rfl (fun K hK => ?_) AllReadyIn.nil)
              · (go_simp; refine hK _ _ ?_; clear hK)
                (refine wpAnyIn_take (i := 8) (v := ?_) rfl rfl (by kernel_rfl) (by kernel_rfl) (by kernel_rfl) (fun _ _ _ h => h) ⟨Or.inl ⟨by rfl, ?_⟩, fun _ => rfl⟩ ?_; rotate_left; (focus (intro w; go_simp; (try with_reducible rfl))))
                (refine wpAnyIn_take (i := 9) (v := ?_) rfl rfl (by kernel_rfl) (by kernel_rfl) (by kernel_rfl) (fun _ _ _ h => h) ⟨Or.inl ⟨by rfl, ?_⟩, fun _ => rfl⟩ ?_; rotate_left; (focus (intro w; go_simp; (try with_reducible rfl))))
                refine wpAnyIn_ready (rs := [10]) (by kernel_rfl) (by simp) (AllReadyIn.cons rfl (fun K hK => ?_) AllReadyIn.nil)
                · (go_simp; refine hK _ _ ?_; clear hK)
                  refine wpAnyIn_done (by kernel_rfl) ?_ _
                  exact HS.out
      · (go_simp; refine hK _ _ ?_; clear hK)
        refine wpAnyIn_ready (rs := [0, 1]) (by kernel_rfl) (by simp) (AllReadyIn.cons rfl (fun K hK => ?_) (AllReadyIn.cons rfl (fun K hK => ?_) AllReadyIn.nil))
        · (go_simp; refine hK _ _ ?_; clear hK)
          refine wpAnyIn_ready (rs := [1]) (by kernel_rfl) (by simp) (AllReadyIn.cons rfl (fun K hK => ?_) AllReadyIn.nil)
          · (go_simp; refine hK _ _ ?_; clear hK)
            (refine wpAnyIn_take (i := 2) (v := ?_) rfl rfl (by kernel_rfl) (by kernel_rfl) (by kernel_rfl) (fun _ _ _ h => h) ⟨Or.inl ⟨by rfl, ?_⟩, fun _ => rfl⟩ ?_; rotate_left; (focus (intro w; go_simp; (try with_reducible rfl))))
            (refine wpAnyIn_take (i := 3) (v := ?_) rfl rfl (by kernel_rfl) (by kernel_rfl) (by kernel_rfl) (fun _ _ _ h => h) ⟨Or.inl ⟨by rfl, ?_⟩, fun _ => rfl⟩ ?_; rotate_left; (focus (intro w; go_simp; (try with_reducible rfl))))
            refine wpAnyIn_ready (rs := [4]) (by kernel_rfl) (by simp) (AllReadyIn.cons rfl (fun K hK => ?_) AllReadyIn.nil)
            · (go_simp; refine hK _ _ ?_; clear hK)
              refine wpAnyIn_ready (rs := [7]) (by kernel_rfl) (by simp) (AllReadyIn.cons rfl (fun K hK => ?_) AllReadyIn.nil)
              · (refine any_append (W.drew.alloc (.cells #[.int .i64 (xa : Nat), .slice (some ⟨g, xa + 6, none⟩) xn xn] 173)) rfl _ _ 122 rfl b0 173 j0 _ 2 32 Tryz.underlying122 hj hy0 hy1 hy2 rfl (by decide) fv nf (pre.flatMap (fCells g)) rfl HOV.out ⟨W.heap.size, 0, none⟩ 1 1 [.int .i64 (xa : Nat), .slice (some ⟨g, xa + 6, none⟩) xn xn] rfl rfl (World.news_of_block (cs := #[.int .i64 (xa : Nat), .slice (some ⟨g, xa + 6, none⟩) xn xn]) (t := 173) (fr := (0, 0)) (lheap_new W.drew _)) (by simp [Value.oneCell']) (by unfold maxLen; omega) (by omega) HBV.out ?_; intro v' w5 ho5 hg5; obtain ⟨g5, cap5, rfl⟩ := ownsRow_succ ho5; obtain ⟨⟨z1, z2, z3⟩, f1, f2, f3⟩ := HPush.out _ w5 ho5 hg5; have HS : Hid (KeepsOthers W (w5.setCell ⟨p, 4, none⟩ (.slice (some ⟨g5, 0, none⟩) (nf + 1) cap5)) ∧ Holds (fun k => k = Br + 1 ∨ k = Br ∨ k = g) W (w5.setCell ⟨p, 4, none⟩ (.slice (some ⟨g5, 0, none⟩) (nf + 1) cap5)) ∧ ∃ fv, Opi w2 m.p b0 p (p + 1) g leb np fv (pre ++ [x]) (w5.setCell ⟨p, 4, none⟩ (.slice (some ⟨g5, 0, none⟩) (nf + 1) cap5))) := ⟨f1, f2, _, f3⟩; clear f1 f2 f3 ho5 hg5; refine hK _ _ ?_; clear hK)
                (refine wpAnyIn_take (i := 8) (v := ?_) rfl rfl (by kernel_rfl) (by kernel_rfl) (by kernel_rfl) (fun _ _ _ h => h) ⟨Or.inl ⟨by rfl, ?_⟩, fun _ => rfl⟩ ?_; rotate_left; (focus (intro w; go_simp; (try with_reducible rfl))))
                (refine wpAnyIn_take (i := 9) (v := ?_) rfl rfl (by kernel_rfl) (by kernel_rfl) (by kernel_rfl) (fun _ _ _ h => h) ⟨Or.inl ⟨by rfl, ?_⟩, fun _ => rfl⟩ ?_; rotate_left; (focus (intro w; go_simp; (try with_reducible rfl))))
                refine wpAnyIn_ready (rs := [10]) (by kernel_rfl) (by simp) (AllReadyIn.cons rfl (fun K hK => ?_) AllReadyIn.nil)
                · (go_simp; refine hK _ _ ?_; clear hK)
                  refine wpAnyIn_done (by kernel_rfl) ?_ _
                  exact HS.out
        · (go_simp; refine hK _ _ ?_; clear hK)
          (refine wpAnyIn_take (i := 2) (v := ?_) rfl rfl (by kernel_rfl) (by kernel_rfl) (by kernel_rfl) (fun _ _ _ h => h) ⟨Or.inl ⟨by rfl, ?_⟩, fun _ => rfl⟩ ?_; rotate_left; (focus (intro w; go_simp; (try with_reducible rfl))))
          (refine wpAnyIn_take (i := 3) (v := ?_) rfl rfl (by kernel_rfl) (by kernel_rfl) (by kernel_rfl) (fun _ _ _ h => h) ⟨Or.inl ⟨by rfl, ?_⟩, fun _ => rfl⟩ ?_; rotate_left; (focus (intro w; go_simp; (try with_reducible rfl))))
          refine wpAnyIn_ready (rs := [0, 4]) (by kernel_rfl) (by simp) (AllReadyIn.cons rfl (fun K hK => ?_) (AllReadyIn.cons rfl (fun K hK => ?_) AllReadyIn.nil))
          · (go_simp; refine hK _ _ ?_; clear hK)
            refine wpAnyIn_ready (rs := [4]) (by kernel_rfl) (by simp) (AllReadyIn.cons rfl (fun K hK => ?_) AllReadyIn.nil)
            · (go_simp; refine hK _ _ ?_; clear hK)
              refine wpAnyIn_ready (rs := [7]) (by kernel_rfl) (by simp) (AllReadyIn.cons rfl (fun K hK => ?_) AllReadyIn.nil)
              · (refine any_append (W.drew.alloc (.cells #[.int .i64 (xa : Nat), .slice (some ⟨g, xa + 6, none⟩) xn xn] 173)) rfl _ _ 122 rfl b0 173 j0 _ 2 32 Tryz.underlying122 hj hy0 hy1 hy2 rfl (by decide) fv nf (pre.flatMap (fCells g)) rfl HOV.out ⟨W.heap.size, 0, none⟩ 1 1 [.int .i64 (xa : Nat), .slice (some ⟨g, xa + 6, none⟩) xn xn] rfl rfl (World.news_of_block (cs := #[.int .i64 (xa : Nat), .slice (some ⟨g, xa + 6, none⟩) xn xn]) (t := 173) (fr := (0, 0)) (lheap_new W.drew _)) (by simp [Value.oneCell']) (by unfold maxLen; omega) (by omega) HBV.out ?_; intro v' w5 ho5 hg5; obtain ⟨g5, cap5, rfl⟩ := ownsRow_succ ho5; obtain ⟨⟨z1, z2, z3⟩, f1, f2, f3⟩ := HPush.out _ w5 ho5 hg5; have HS : Hid (KeepsOthers W (w5.setCell ⟨p, 4, none⟩ (.slice (some ⟨g5, 0, none⟩) (nf + 1) cap5)) ∧ Holds (fun k => k = Br + 1 ∨ k = Br ∨ k = g) W (w5.setCell ⟨p, 4, none⟩ (.slice (some ⟨g5, 0, none⟩) (nf + 1) cap5)) ∧ ∃ fv, Opi w2 m.p b0 p (p + 1) g leb np fv (pre ++ [x]) (w5.setCell ⟨p, 4, none⟩ (.slice (some ⟨g5, 0, none⟩) (nf + 1) cap5))) := ⟨f1, f2, _, f3⟩; clear f1 f2 f3 ho5 hg5; refine hK _ _ ?_; clear hK)
                (refine wpAnyIn_take (i := 8) (v := ?_) rfl rfl (by kernel_rfl) (by kernel_rfl) (by kernel_rfl) (fun _ _ _ h => h) ⟨Or.inl ⟨by rfl, ?_⟩, fun _ => rfl⟩ ?_; rotate_left; (focus (intro w; go_simp; (try with_reducible rfl))))
                (refine wpAnyIn_take (i := 9) (v := ?_) rfl rfl (by kernel_rfl) (by kernel_rfl) (by kernel_rfl) (fun _ _ _ h => h) ⟨Or.inl ⟨by rfl, ?_⟩, fun _ => rfl⟩ ?_; rotate_left; (focus (intro w; go_simp; (try with_reducible rfl))))
                refine wpAnyIn_ready (rs := [10]) (by kernel_rfl) (by simp) (AllReadyIn.cons rfl (fun K hK => ?_) AllReadyIn.nil)
                · (go_simp; refine hK _ _ ?_; clear hK)
                  refine wpAnyIn_done (by kernel_rfl) ?_ _
                  exact HS.out
          · (go_simp; refine hK _ _ ?_; clear hK)
            refine wpAnyIn_ready (rs := [0, 7]) (by kernel_rfl) (by simp) (AllReadyIn.cons rfl (fun K hK => ?_) (AllReadyIn.cons rfl (fun K hK => ?_) AllReadyIn.nil))
            · (go_simp; refine hK _ _ ?_; clear hK)
              refine wpAnyIn_ready (rs := [7]) (by kernel_rfl) (by simp) (AllReadyIn.cons rfl (fun K hK => ?_) AllReadyIn.nil)
              · (refine any_append (W.drew.alloc (.cells #[.int .i64 (xa : Nat), .slice (some ⟨g, xa + 6, none⟩) xn xn] 173)) rfl _ _ 122 rfl b0 173 j0 _ 2 32 Tryz.underlying122 hj hy0 hy1 hy2 rfl (by decide) fv nf (pre.flatMap (fCells g)) rfl HOV.out ⟨W.heap.size, 0, none⟩ 1 1 [.int .i64 (xa : Nat), .slice (some ⟨g, xa + 6, none⟩) xn xn] rfl rfl (World.news_of_block (cs := #[.int .i64 (xa : Nat), .slice (some ⟨g, xa + 6, none⟩) xn xn]) (t := 173) (fr := (0, 0)) (lheap_new W.drew _)) (by simp [Value.oneCell']) (by unfold maxLen; omega) (by omega) HBV.out ?_; intro v' w5 ho5 hg5; obtain ⟨g5, cap5, rfl⟩ := ownsRow_succ ho5; obtain ⟨⟨z1, z2, z3⟩, f1, f2, f3⟩ := HPush.out _ w5 ho5 hg5; have HS : Hid (KeepsOthers W (w5.setCell ⟨p, 4, none⟩ (.slice (some ⟨g5, 0, none⟩) (nf + 1) cap5)) ∧ Holds (fun k => k = Br + 1 ∨ k = Br ∨ k = g) W (w5.setCell ⟨p, 4, none⟩ (.slice (some ⟨g5, 0, none⟩) (nf + 1) cap5)) ∧ ∃ fv, Opi w2 m.p b0 p (p + 1) g leb np fv (pre ++ [x]) (w5.setCell ⟨p, 4, none⟩ (.slice (some ⟨g5, 0, none⟩) (nf + 1) cap5))) := ⟨f1, f2, _, f3⟩; clear f1 f2 f3 ho5 hg5; refine hK _ _ ?_; clear hK)
                (refine wpAnyIn_take (i := 8) (v := ?_) rfl rfl (by kernel_rfl) (by kernel_rfl) (by kernel_rfl) (fun _ _ _ h => h) ⟨Or.inl ⟨by rfl, ?_⟩, fun _ => rfl⟩ ?_; rotate_left; (focus (intro w; go_simp; (try with_reducible rfl))))
                (refine wpAnyIn_take (i := 9) (v := ?_) rfl rfl (by kernel_rfl) (by kernel_rfl) (by kernel_rfl) (fun _ _ _ h => h) ⟨Or.inl ⟨by rfl, ?_⟩, fun _ => rfl⟩ ?_; rotate_left; (focus (intro w; go_simp; (try with_reducible rfl))))
                refine wpAnyIn_ready (rs := [10]) (by kernel_rfl) (by simp) (AllReadyIn.cons rfl (fun K hK => ?_) AllReadyIn.nil)
                · (go_simp; refine hK _ _ ?_; clear hK)
                  refine wpAnyIn_done (by kernel_rfl) ?_ _
                  exact HS.out
            · (refine any_append (W.drew.alloc (.cells #[.int .i64 (xa : Nat), .slice (some ⟨g, xa + 6, none⟩) xn xn] 173)) rfl _ _ 122 rfl b0 173 j0 _ 2 32 Tryz.underlying122 hj hy0 hy1 hy2 rfl (by decide) fv nf (pre.flatMap (fCells g)) rfl HOV.out ⟨W.heap.size, 0, none⟩ 1 1 [.int .i64 (xa : Nat), .slice (some ⟨g, xa + 6, none⟩) xn xn] rfl rfl (World.news_of_block (cs := #[.int .i64 (xa : Nat), .slice (some ⟨g, xa + 6, none⟩) xn xn]) (t := 173) (fr := (0, 0)) (lheap_new W.drew _)) (by simp [Value.oneCell']) (by unfold maxLen; omega) (by omega) HBV.out ?_; intro v' w5 ho5 hg5; obtain ⟨g5, cap5, rfl⟩ := ownsRow_succ ho5; obtain ⟨⟨z1, z2, z3⟩, f1, f2, f3⟩ := HPush.out _ w5 ho5 hg5; have HS : Hid (KeepsOthers W (w5.setCell ⟨p, 4, none⟩ (.slice (some ⟨g5, 0, none⟩) (nf + 1) cap5)) ∧ Holds (fun k => k = Br + 1 ∨ k = Br ∨ k = g) W (w5.setCell ⟨p, 4, none⟩ (.slice (some ⟨g5, 0, none⟩) (nf + 1) cap5)) ∧ ∃ fv, Opi w2 m.p b0 p (p + 1) g leb np fv (pre ++ [x]) (w5.setCell ⟨p, 4, none⟩ (.slice (some ⟨g5, 0, none⟩) (nf + 1) cap5))) := ⟨f1, f2, _, f3⟩; clear f1 f2 f3 ho5 hg5; refine hK _ _ ?_; clear hK)
              refine wpAnyIn_ready (rs := [0]) (by kernel_rfl) (by simp) (AllReadyIn.cons rfl (fun K hK => ?_) AllReadyIn.nil)
              · (go_simp; refine hK _ _ ?_; clear hK)
                (refine wpAnyIn_take (i := 8) (v := ?_) rfl rfl (by kernel_rfl) (by kernel_rfl) (by kernel_rfl) (fun _ _ _ h => h) ⟨Or.inl ⟨by rfl, ?_⟩, fun _ => rfl⟩ ?_; rotate_left; (focus (intro w; go_simp; (try with_reducible rfl))))
                (refine wpAnyIn_take (i := 9) (v := ?_) rfl rfl (by kernel_rfl) (by kernel_rfl) (by kernel_rfl) (fun _ _ _ h => h) ⟨Or.inl ⟨by rfl, ?_⟩, fun _ => rfl⟩ ?_; rotate_left; (focus (intro w; go_simp; (try with_reducible rfl))))
                refine wpAnyIn_ready (rs := [10]) (by kernel_rfl) (by simp) (AllReadyIn.cons rfl (fun K hK => ?_) AllReadyIn.nil)
                · (go_simp; refine hK _ _ ?_; clear hK)
                  refine wpAnyIn_done (by kernel_rfl) ?_ _
                  exact HS.out
  case hdone =>
    intro D' W hD' hI hT hd
    obtain ⟨fv, hA⟩ := hI
    have ro := rdr_ok gz (by have := HG.out; omega) b _ HBd.out.2.2.2.choose_spec (b.length + 1) 0 (Nat.zero_le _) (by have := HG.out; simp; omega)
    have ra := rdr_all gz (by have := HG.out; omega) b _ HBd.out.2.2.2.choose_spec (b.length + 1) 0 (Nat.zero_le _) (by omega)
    obtain ⟨fs, hfs⟩ : ∃ fs, fs = (rdr gz b (b.length + 1) 0).1 := ⟨_, rfl⟩
    obtain ⟨q, hq⟩ : ∃ q, q = (rdr gz b (b.length + 1) 0).2.1 := ⟨_, rfl⟩
    obtain ⟨sp, hsp⟩ : ∃ sp, sp = (rdr gz b (b.length + 1) 0).2.2 := ⟨_, rfl⟩
    rw [← hfs] at hA ro
    rw [← hq] at hT ro ra
    rw [← hsp] at hT ra
    have HRO := hidV ro
    have HRA := hidV ra
    have HFS := hidV (show fs = (rdr gz b (b.length + 1) 0).1 ∧ q = (rdr gz b (b.length + 1) 0).2.1 ∧ sp = (rdr gz b (b.length + 1) 0).2.2 from ⟨hfs, hq, hsp⟩)
    have HA := hidV hA
    have HT := hidV hT
    have HD := hidV hd
    have qD : (q : Int) ≤ (D : Int) := by have := ro.2.2.1; have := HBd.out.1; omega
    have D1 : (D : Int) ≤ 31744 := by have := HBd.out.2.1; omega
    have cl := hA.lx.cell (i := 0) rfl
    have c2 := hA.lb.cell (i := 2) rfl
    have c5 := hA.lb.cell (i := 5) rfl
    have f2 := hA.lb.frozen 2
    have f5 := hA.lb.frozen 5
    have e2 := hT.cells.2.2.1
    have e3 := hT.cells.2.2.2
    have lp := hA.lb.lt
    obtain ⟨x1, x2, x3, x4⟩ := opi_fin (sp := sp) (q := q) (D := D) hA (by have := HB0.out; omega) hd (by omega) (by have := HWp.out; omega)
    have HFD := hidV x1
    have HFP : Hid (∃ l : Lm, l.p = p ∧ OpenP base t w m c P leb l (((W.drew.setCell ⟨p, 2, none⟩ (.slice (some ⟨g, 0, none⟩) q D)).setCell ⟨p, 5, none⟩ (.bool sp)).putObj D' (.deferred none))) :=
      ⟨_, rfl, opened HH2.out HMp.out HDef.out.2.1 HDef.out.2.2 HDef.out.1 HLb.out x2 x3 x4 (by have := HWp.out; omega) (by have := HWp.out; omega) (by rw [← HG.out.2.2]; exact hfs) (by rw [← HG.out.2.2]; exact hq) (by rw [← HG.out.2.2]; exact hsp)⟩
    have hpp : p + 1 ≠ p := by omega
    have gl := (hA.lx.kept (S := fun k => k = p) (Kept.setCell (S := fun k => k = p) ((Kept.refl _ W).drew) (p := ⟨p, 2, none⟩) rfl (.slice (some ⟨g, 0, none⟩) q D)) hpp).cell (i := 0) rfl
    have g5 := ((hA.lb.later (Below.refl _ W).drew).set (i := 2) (.slice (some ⟨g, 0, none⟩) q D) (by simp [oCells])).cell (i := 5) rfl
    have gf5 := ((hA.lb.later (Below.refl _ W).drew).set (i := 2) (.slice (some ⟨g, 0, none⟩) q D) (by simp [oCells])).frozen 5
    clear ro ra hA hT hfs hq hsp hd hD' x1 x2 x3 x4
    gi_wp2
    refine wpIn_then_false ?_
    gi_region
    all_goals gi_wp2
    all_goals
      refine ⟨by simp, .inl ⟨_, _, rfl, run_takeDeferred HFD.out, ?_⟩⟩
      obtain ⟨l, rfl, hop⟩ := HFP.out
      exact ⟨.tuple #[.pointer (some ⟨l.p, 0, none⟩), .int .i64 0], by simp [results, Tryz.f55, go_sem], l, rfl, hop⟩
theorem open_any {base t : Nat} {w : World} {m : Mg} {c : CS} {P : List (List (List Nat))} (h : Ms base t w m c P) (leb : Nat) (hleb : (leb : Int) + c.gr + 2 < c.gb) :
    Calls Tryz.prog 55 #[.pointer (some ⟨m.p, 0, none⟩), .int .i64 (leb : Nat)] w fun e w' => ∃ l, e = .returned (.tuple #[.pointer (some ⟨l.p, 0, none⟩), .int .i64 0]) ∧ OpenP base t w m c P leb l w' :=
  (callsIn_wide (n := 6)).1 (open_in 6 (Nat.le_refl _) h leb hleb)
end Go.Proofs.YtkfecngkdlajgaaGreatDoor
